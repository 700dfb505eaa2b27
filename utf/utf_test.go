package utf_test

import (
	"slices"
	"testing"
	"unicode/utf8"

	"newsreel/sample"
	"newsreel/utf"
)

const (
	sign      = 0xfffd
	signBytes = "\xef\xbf\xbd"
)

type cut struct {
	s string
	r rune
	n int
}

func checkNext(t *testing.T, l []cut) {
	t.Helper()
	for _, x := range l {
		if r, n := utf.Next(x.s); r != x.r || n != x.n {
			t.Errorf("Next(% x): %x and %d, not %x and %d", x.s, r, n, x.r, x.n)
		}
	}
}

// ends: the first and the last rune of each length, and those beside what may not be, with their bytes.
func ends() []cut {
	return []cut{
		{"\x00", 0, 1}, {"a", 'a', 1}, {"\x7f", 0x7f, 1},
		{"\xc2\x80", 0x80, 2}, {"\xc3\xa4", 0xe4, 2}, {"\xdf\xbf", 0x7ff, 2},
		{"\xe0\xa0\x80", 0x800, 3}, {"\xe2\x82\xac", 0x20ac, 3}, {"\xed\x9f\xbf", 0xd7ff, 3},
		{"\xee\x80\x80", 0xe000, 3}, {signBytes, sign, 3}, {"\xef\xbf\xbf", 0xffff, 3},
		{"\xf0\x90\x80\x80", 0x10000, 4}, {"\xf0\x9f\x98\x80", 0x1f600, 4}, {"\xf4\x8f\xbf\xbf", 0x10ffff, 4},
	}
}

// notRunes: numbers that no rune has, with those beside the ones that may be and the ends of the type.
func notRunes() []rune {
	return []rune{-1 << 31, -0x10ffff, -0xd801, -1, 0xd800, 0xd801, 0xdbff, 0xdc00, 0xdffe, 0xdfff, 0x110000, 0x110001, 0x200000, 1<<31 - 1}
}

func TestNextOfRunes(t *testing.T) {
	for _, x := range ends() {
		checkNext(t, []cut{x, {x.s + "z", x.r, x.n}, {x.s + "\x80", x.r, x.n}, {x.s + "\xff", x.r, x.n}, {x.s + x.s, x.r, x.n}})
	}
}

func TestNextOfNothing(t *testing.T) {
	checkNext(t, []cut{{"", 0, 0}})
}

// leads: runs of leads whose followers have the same bounds.
func leads() []struct{ from, to, low, high, follow int } {
	return []struct{ from, to, low, high, follow int }{
		{0xc2, 0xdf, 0x80, 0xbf, 1},
		{0xe0, 0xe0, 0xa0, 0xbf, 2},
		{0xe1, 0xec, 0x80, 0xbf, 2},
		{0xed, 0xed, 0x80, 0x9f, 2},
		{0xee, 0xef, 0x80, 0xbf, 2},
		{0xf0, 0xf0, 0x90, 0xbf, 3},
		{0xf1, 0xf3, 0x80, 0xbf, 3},
		{0xf4, 0xf4, 0x80, 0x8f, 3},
	}
}

func TestEachLeadWithItsFollowers(t *testing.T) {
	for _, g := range leads() {
		for lead := g.from; lead <= g.to; lead++ {
			texts := []string{string([]byte{byte(lead)})}
			for place := 1; place <= g.follow; place++ {
				low, high := g.low, g.high
				if place > 1 {
					low, high = 0x80, 0xbf
				}
				var longer []string
				for _, s := range texts {
					checkNext(t, []cut{{s, sign, place}, {s + string([]byte{byte(low - 1)}), sign, place}, {s + string([]byte{byte(high + 1)}), sign, place}})
					for _, b := range []int{low, low + 1, high - 1, high} {
						longer = append(longer, s+string([]byte{byte(b)}))
					}
				}
				texts = longer
			}
			for _, s := range texts {
				r, _ := utf8.DecodeRuneInString(s)
				checkNext(t, []cut{{s, r, g.follow + 1}, {s + "\xbf", r, g.follow + 1}})
			}
		}
	}
}

func TestBytesThatAreNoLead(t *testing.T) {
	for b := 0x80; b <= 0xff; b++ {
		if b >= 0xc2 && b <= 0xf4 {
			continue
		}
		s := string([]byte{byte(b)})
		checkNext(t, []cut{{s, sign, 1}, {s + "a", sign, 1}, {s + "\x80\x80\x80", sign, 1}, {s + s, sign, 1}})
	}
}

func TestBytesThatBreakOff(t *testing.T) {
	checkNext(t, []cut{
		{"\xc3", sign, 1}, {"\xc3a", sign, 1}, {"\xc3\xc3\xa4", sign, 1}, {"\xc3\x7f", sign, 1}, {"\xc3\xc0", sign, 1},
		{"\xe2", sign, 1}, {"\xe2\x82", sign, 2}, {"\xe2\x82a", sign, 2}, {"\xe2\x82\xe2\x82\xac", sign, 2}, {"\xe2a\x82", sign, 1},
		{"\xf0", sign, 1}, {"\xf0\x9f", sign, 2}, {"\xf0\x9f\x98", sign, 3}, {"\xf0\x9f\x98a", sign, 3}, {"\xf0\x9f\x98\xff", sign, 3}, {"\xf0\x9fa\x80", sign, 2},
		{"\xed\xa0\x80", sign, 1}, {"\xed\xbf\xbf", sign, 1}, {"\xed\x9f", sign, 2},
		{"\xe0\x9f\xbf", sign, 1}, {"\xe0\x80\x80", sign, 1}, {"\xf0\x8f\xbf\xbf", sign, 1}, {"\xf4\x90\x80\x80", sign, 1},
		{"\xc0\x80", sign, 1}, {"\xc1\xbf", sign, 1}, {"\xf5\x80\x80\x80", sign, 1}, {"\xf8\x88\x80\x80\x80", sign, 1},
	})
}

// beginnings: the beginnings, shorter than whole, of the bytes of all runes, by the library's own encoder.
func beginnings() map[string]bool {
	m := map[string]bool{}
	for r := rune(0); r <= utf8.MaxRune; r++ {
		if !utf8.ValidRune(r) {
			continue
		}
		b := utf8.AppendRune(nil, r)
		for n := 1; n < len(b); n++ {
			m[string(b[:n])] = true
		}
	}
	return m
}

// expected: what Next must tell: the library's rune, or the longest stretch with which some rune begins.
func expected(s string, begin map[string]bool) (rune, int) {
	if s == "" {
		return 0, 0
	}
	if r, n := utf8.DecodeRuneInString(s); r != utf8.RuneError || n > 1 {
		return r, n
	}
	n := 1
	for n < len(s) && begin[s[:n+1]] {
		n++
	}
	return sign, n
}

func TestNextOfAllFirstBytes(t *testing.T) {
	begin := beginnings()
	edges := []byte{0x00, 'a', 0x7f, 0x80, 0x8f, 0x90, 0x9f, 0xa0, 0xbf, 0xc0, 0xc2, 0xe0, 0xf0, 0xf4, 0xff}
	for first := 0; first < 256; first++ {
		for second := 0; second < 256; second++ {
			for _, third := range edges {
				for _, fourth := range edges {
					s := string([]byte{byte(first), byte(second), third, fourth})
					for n := 1; n <= 4; n++ {
						r, size := expected(s[:n], begin)
						if gr, gn := utf.Next(s[:n]); gr != r || gn != size {
							t.Fatalf("Next(% x): %x and %d, not %x and %d", s[:n], gr, gn, r, size)
						}
					}
				}
			}
		}
	}
}

func TestDecode(t *testing.T) {
	for _, x := range []struct {
		s string
		l []rune
	}{
		{"", nil},
		{"a", []rune{'a'}},
		{"a\xe2\x82\xac\xe2\x82\xff", []rune{'a', 0x20ac, sign, sign}},
		{"\xff\xff\x80", []rune{sign, sign, sign}},
		{"\xed\xa0\x80", []rune{sign, sign, sign}},
		{"\xf0\x9f\x98\xf0\x9f\x98\x80", []rune{sign, 0x1f600}},
		{"\xf4\x90\x80", []rune{sign, sign, sign}},
		{"\xe0\x9f", []rune{sign, sign}},
		{signBytes + "\xef\xbf", []rune{sign, sign}},
		{"\x00\xc3\xa4\x00", []rune{0, 0xe4, 0}},
	} {
		if got := utf.Decode(x.s); !slices.Equal(got, x.l) {
			t.Errorf("Decode(% x): %x, not %x", x.s, got, x.l)
		}
	}
}

func TestDecodeIsNextToTheEnd(t *testing.T) {
	for _, s := range texts(5000) {
		var l []rune
		for rest := s; rest != ""; {
			r, n := utf.Next(rest)
			if n < 1 || n > 4 || n > len(rest) {
				t.Fatalf("Next(% x): %d bytes", rest, n)
			}
			l, rest = append(l, r), rest[n:]
		}
		if got := utf.Decode(s); !slices.Equal(got, l) {
			t.Fatalf("Decode(% x): %x, not %x", s, got, l)
		}
	}
}

func TestValid(t *testing.T) {
	for _, s := range []string{"", "a", "\x00", "\x7f", signBytes, "a" + signBytes + "b", "a\xe2\x82\xac", "\xed\x9f\xbf\xee\x80\x80", "\xf4\x8f\xbf\xbf"} {
		if !utf.Valid(s) {
			t.Errorf("Valid(% x): false", s)
		}
	}
	for _, s := range []string{"\x80", "\xff", "\xc3", "a\xff", "\xffa", signBytes + "\xff", "\xef\xbf", "\xf0\x9f\x98", "a\xf0\x9f\x98a", "\xed\xa0\x80", "\xc0\x80", "\xe0\x80\x80", "\xf4\x90\x80\x80", "aa\xe2\x82"} {
		if utf.Valid(s) {
			t.Errorf("Valid(% x): true", s)
		}
	}
}

func TestIsAndBytesOfAllRunes(t *testing.T) {
	for r := rune(-0x1000); r <= 0x111000; r++ {
		may := utf8.ValidRune(r)
		if utf.Is(r) != may {
			t.Fatalf("Is(%x): %v", r, !may)
		}
		if got, want := utf.Bytes(r), string(utf8.AppendRune(nil, r)); got != want {
			t.Fatalf("Bytes(%x): % x, not % x", r, got, want)
		}
	}
}

func TestIsAndBytesOfTheEnds(t *testing.T) {
	for _, x := range ends() {
		if !utf.Is(x.r) || utf.Bytes(x.r) != x.s {
			t.Errorf("%x: %v, % x", x.r, utf.Is(x.r), utf.Bytes(x.r))
		}
	}
	for _, r := range notRunes() {
		if utf.Is(r) || utf.Bytes(r) != signBytes {
			t.Errorf("%x: %v, % x", r, utf.Is(r), utf.Bytes(r))
		}
	}
}

func TestEncode(t *testing.T) {
	var all []rune
	want := ""
	for _, x := range ends() {
		all, want = append(all, x.r), want+x.s
	}
	for _, r := range notRunes() {
		all, want = append(all, r), want+signBytes
	}
	handed := slices.Clone(all)
	if got := utf.Encode(handed); got != want {
		t.Errorf("Encode: % x, not % x", got, want)
	}
	if !slices.Equal(handed, all) {
		t.Error("Encode changed what it was handed")
	}
	if utf.Encode(nil) != "" || utf.Encode([]rune{}) != "" || utf.Encode([]rune{'a', 0xe4}) != "a\xc3\xa4" {
		t.Error("Encode of few runes")
	}
}

func TestAnswersShareNothing(t *testing.T) {
	a, b := utf.Decode("abc"), utf.Decode("abc")
	a[0] = 'z'
	_ = append(a[:1], 'y', 'y', 'y')
	if !slices.Equal(b, []rune("abc")) || !slices.Equal(utf.Decode("abc"), []rune("abc")) {
		t.Error("two answers share memory")
	}
}

func TestRunesGoThereAndBack(t *testing.T) {
	for r := rune(0); r <= utf8.MaxRune; r++ {
		if !utf.Is(r) {
			continue
		}
		s := utf.Bytes(r)
		if got, n := utf.Next(s); got != r || n != len(s) || !utf.Valid(s) {
			t.Fatalf("%x comes back as %x, of %d bytes", r, got, n)
		}
	}
	for _, s := range texts(2000) {
		l := utf.Decode(s)
		if back := utf.Decode(utf.Encode(l)); !slices.Equal(back, l) {
			t.Fatalf("%x comes back as %x", l, back)
		}
	}
}

func TestValidJustIfTheBytesOfItsRunes(t *testing.T) {
	for _, s := range texts(20000) {
		if utf.Valid(s) != (utf.Encode(utf.Decode(s)) == s) || utf.Valid(s) != utf8.ValidString(s) {
			t.Fatalf("Valid(% x): %v", s, utf.Valid(s))
		}
	}
}

func TestLongTexts(t *testing.T) {
	l := slices.Repeat([]rune{0x1f600, 'a', 0x20ac}, 1<<18)
	s := utf.Encode(l)
	if len(s) != 8<<18 || !utf.Valid(s) || !slices.Equal(utf.Decode(s), l) {
		t.Error("a long text doesn't come back")
	}
	broken := string(slices.Repeat([]byte{0xf0}, 1<<20))
	if utf.Valid(broken) || len(utf.Decode(broken)) != len(broken) {
		t.Error("a long broken text")
	}
}

// texts: n texts, whole, broken off and mixed.
func texts(n int) []string {
	return sample.Texts([]string{"a", "\x7f", "\x80", "\x8f", "\x90", "\x9f", "\xa0", "\xbf", "\xc0", "\xc2", "\xc3\xa4", "\xdf", "\xe0", "\xe2\x82\xac", "\xe2\x82", "\xed", "\xef\xbf\xbd", "\xf0", "\xf0\x9f\x98\x80", "\xf0\x9f\x98", "\xf4", "\xf5", "\xff", "\x00"}, n, 9)
}

func FuzzUtf(f *testing.F) {
	for _, s := range texts(50) {
		f.Add(s)
	}
	begin := beginnings()
	f.Fuzz(func(t *testing.T, s string) {
		for rest := s; rest != ""; {
			r, n := expected(rest, begin)
			if gr, gn := utf.Next(rest); gr != r || gn != n {
				t.Fatalf("Next(% x): %x and %d, not %x and %d", rest, gr, gn, r, n)
			}
			rest = rest[n:]
		}
		if utf.Valid(s) != utf8.ValidString(s) || utf.Valid(s) != (utf.Encode(utf.Decode(s)) == s) {
			t.Fatalf("Valid(% x): %v", s, utf.Valid(s))
		}
	})
}
