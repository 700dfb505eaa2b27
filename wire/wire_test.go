package wire_test

import (
	"encoding/hex"
	"math"
	"slices"
	"strconv"
	"strings"
	"testing"

	"newsreel/sample"
	"newsreel/wire"
)

var repeat = strings.Repeat

// text: n bytes, any two side by side unlike.
func text(n int) string {
	b := make([]byte, n)
	for i := range b {
		b[i] = byte('a' + i%23)
	}
	return string(b)
}

// few: the begin of s, so that what a test tells isn't too long.
func few(s string) string { return s[:min(len(s), 100)] }

// shown: the begin of s, as it may be told among other things.
func shown(s string) string { return strconv.Quote(few(s)) }

// bytesOf: the bytes whose hexadecimal digits s is, blanks among them.
func bytesOf(s string) string {
	b, err := hex.DecodeString(strings.ReplaceAll(s, " ", ""))
	if err != nil {
		panic(err)
	}
	return string(b)
}

// numbers: edges, each power of two and what stands beside it, above and below 0, the ends of the type, mixed ones.
func numbers() []int {
	l := []int{0, 1, -1, 63, 64, -64, -65, math.MinInt, math.MinInt + 1, math.MaxInt - 1, math.MaxInt}
	for bit := range 63 {
		for _, n := range []int{1<<bit - 1, 1 << bit, 1<<bit + 1} {
			l = append(l, n, -n)
		}
	}
	for _, m := range sample.Mixed(1000) {
		l = append(l, int(m), int(m)>>(m%64))
	}
	return l
}

// behinds: what may stand behind a number, or a text.
func behinds() []string {
	return []string{"", "\x00", "\x01", "\x7f", "\x80", "\xff", "more", "\x80\x00", repeat("\xff", 11), repeat("\x00", 300)}
}

// checkInt: want is the bytes of n, and they are read so, whatever stands behind; what stops within them is none's.
func checkInt(t *testing.T, n int, want string) {
	t.Helper()
	if s := plainInt(n); s != want {
		t.Errorf("the other way of %d: %x, not %x", n, s, want)
	}
	if got := wire.Int(n); got != want {
		t.Errorf("Int(%d): %x, not %x", n, got, want)
	}
	for _, behind := range behinds() {
		checkReadInt(t, want+behind, n, behind)
	}
	for i := range want {
		checkNoInt(t, want[:i])
	}
}

// checkReadInt: of s that number is read, and what stands behind.
func checkReadInt(t *testing.T, s string, want int, behind string) {
	t.Helper()
	if n, rest, ok := wire.ReadInt(s); n != want || rest != behind || !ok {
		t.Errorf("ReadInt(%x): %d, %x, %v, not %d, %x", few(s), n, few(rest), ok, want, few(behind))
	}
}

// checkNoInt: s begins with no number's bytes.
func checkNoInt(t *testing.T, s string) {
	t.Helper()
	if n, rest, ok := wire.ReadInt(s); n != 0 || rest != "" || ok {
		t.Errorf("ReadInt(%x): %d, %x, %v, not nothing", few(s), n, few(rest), ok)
	}
}

// checkIntAsOther: of s that is read that the other way reads; what is read, written again, is the same bytes.
func checkIntAsOther(t *testing.T, s string) {
	t.Helper()
	n, rest, ok := plainReadInt(s)
	if !ok {
		checkNoInt(t, s)
		return
	}
	checkReadInt(t, s, n, rest)
	if wire.Int(n)+rest != s {
		t.Errorf("Int(%d): %x, not the beginning of %x", n, wire.Int(n), few(s))
	}
}

// checkText: the bytes of s are its length's, and it; they are read so, by each most that isn't below its length; what stops within them is none's.
func checkText(t *testing.T, s string) {
	t.Helper()
	want := plainInt(len(s)) + s
	if got := wire.Text(s); got != want {
		t.Errorf("Text(%x): %x, not %x", few(s), few(got), few(want))
	}
	for _, behind := range behinds() {
		for _, most := range []int{len(s), len(s) + 1, 2*len(s) + 1, math.MaxInt - 1, math.MaxInt} {
			checkReadText(t, want+behind, most, s, behind)
		}
		for _, most := range []int{len(s) - 1, -1, -len(s) - 1, math.MinInt + 1, math.MinInt} {
			checkNoText(t, want+behind, most)
		}
	}
	for i := range min(len(want), 70) {
		checkNoText(t, want[:i], len(s))
		checkNoText(t, want[:i], math.MaxInt)
		checkNoText(t, want[:len(want)-1-i], len(s))
	}
}

// checkReadText: of s that text is read, and what stands behind.
func checkReadText(t *testing.T, s string, most int, want, behind string) {
	t.Helper()
	if got, rest, ok := wire.ReadText(s, most); got != want || rest != behind || !ok {
		t.Errorf("ReadText(%x, %d): %x, %x, %v, not %x, %x", few(s), most, few(got), few(rest), ok, few(want), few(behind))
	}
}

// checkNoText: s begins with no such text's bytes.
func checkNoText(t *testing.T, s string, most int) {
	t.Helper()
	if got, rest, ok := wire.ReadText(s, most); got != "" || rest != "" || ok {
		t.Errorf("ReadText(%x, %d): %x, %x, %v, not nothing", few(s), most, few(got), few(rest), ok)
	}
}

// checkTextAsOther: as checkIntAsOther.
func checkTextAsOther(t *testing.T, s string, most int) {
	t.Helper()
	want, rest, ok := plainReadText(s, most)
	if !ok {
		checkNoText(t, s, most)
		return
	}
	checkReadText(t, s, most, want, rest)
	if wire.Text(want)+rest != s {
		t.Errorf("Text(%x): not the beginning of %x", few(want), few(s))
	}
}

func TestTheChaptersExamples(t *testing.T) {
	checkInt(t, -1, "\x01")
	checkInt(t, 128, "\x80\x02")
	if got := wire.Text("ab"); got != "\x04ab" {
		t.Errorf("Text of ab: %x", got)
	}
	checkText(t, "ab")
}

func TestInt(t *testing.T) {
	for _, row := range []struct {
		n     int
		bytes string
	}{
		{0, "00"}, {-1, "01"}, {1, "02"}, {-2, "03"}, {2, "04"}, {-3, "05"},
		{63, "7e"}, {-64, "7f"}, {64, "8001"}, {-65, "8101"}, {65, "8201"}, {-66, "8301"},
		{127, "fe01"}, {128, "8002"}, {-128, "ff01"}, {-129, "8102"}, {255, "fe03"}, {256, "8004"},
		{8191, "fe7f"}, {-8192, "ff7f"}, {8192, "808001"}, {-8193, "818001"},
		{1<<20 - 1, "feff7f"}, {-1 << 20, "ffff7f"}, {1 << 20, "80808001"}, {-1<<20 - 1, "81808001"},
		{1<<31 - 1, "feffffff0f"}, {-1 << 31, "ffffffff0f"}, {1 << 31, "8080808010"},
		{1<<53 - 1, "feffffffffffff1f"}, {1 << 53, "8080808080808020"},
		{1 << 62, "80808080808080808001"}, {-1<<62 - 1, "81808080808080808001"}, {1<<62 - 1, "feffffffffffffff7f"}, {-1 << 62, "ffffffffffffffff7f"},
		{math.MaxInt, "feffffffffffffffff01"}, {math.MinInt, "ffffffffffffffffff01"},
		{math.MaxInt - 1, "fcffffffffffffffff01"}, {math.MinInt + 1, "fdffffffffffffffff01"},
	} {
		checkInt(t, row.n, bytesOf(row.bytes))
	}
}

func TestIntOfEdgesAndMixedNumbers(t *testing.T) {
	for _, n := range numbers() {
		checkInt(t, n, plainInt(n))
	}
}

// Numbers one behind the other have bytes of their own, and no more than they need.
func TestIntOfEachNumber(t *testing.T) {
	seen := map[string]bool{}
	for n := -20000; n <= 20000; n++ {
		checkInt(t, n, plainInt(n))
		s := wire.Int(n)
		seen[s] = true
		want := 1
		if n < -64 || n > 63 {
			want++
		}
		if n < -8192 || n > 8191 {
			want++
		}
		if len(s) != want {
			t.Errorf("Int(%d) has %d bytes, not %d", n, len(s), want)
		}
	}
	if len(seen) != 40001 {
		t.Errorf("40001 numbers have %d rows of bytes", len(seen))
	}
}

func TestReadIntOfNone(t *testing.T) {
	for _, s := range []string{
		"", "80", "ff", "8080", "ffff", "fefe", "80808080808080808080", "ffffffffffffffffffff",
		"8000", "8100", "ff00", "808000", "808100", "ffff00", "80808080808080808000", "ffffffffffffffffff00", // a byte more than they need
		"80808080808080808002", "80808080808080808003", "ffffffffffffffffff02", "ffffffffffffffffff03", "ffffffffffffffffff7f", "80808080808080808040", // too great
		"8080808080808080808000", "8080808080808080808001", "ffffffffffffffffffff00", "ffffffffffffffffffff01", "ffffffffffffffffff8101", // eleven bytes
		"feffffffffffffffff8100", "8080808080808080808080808080808080808001",
	} {
		checkNoInt(t, bytesOf(s))
		if s := bytesOf(s); len(s) > 0 && s[len(s)-1] < 128 {
			for _, behind := range behinds() {
				checkNoInt(t, s+behind)
			}
		}
	}
	for n := range 400 {
		for _, c := range []string{"\x80", "\xff", "\x81", "\xfe"} {
			checkNoInt(t, repeat(c, n))
			if n > 9 {
				checkNoInt(t, repeat(c, n)+"\x00")
				checkNoInt(t, repeat(c, n)+"\x01more")
			}
		}
	}
}

// Of ten bytes the last one is 1, if they are a number's.
func TestReadIntOfTenBytes(t *testing.T) {
	for _, m := range append(sample.Mixed(50), sample.Edges()...) {
		b := make([]byte, 10)
		for i := range b {
			b[i] = byte(m>>(7*i)) | 128
		}
		for c := range 256 {
			b[9] = byte(c)
			if _, _, ok := wire.ReadInt(string(b)); ok != (c == 1) {
				t.Errorf("ReadInt(%x): %v", b, ok)
			}
			checkIntAsOther(t, string(b))
			checkIntAsOther(t, string(b)+"\x01")
		}
	}
}

func TestReadIntOfShortTexts(t *testing.T) {
	for c := range 256 {
		s := string([]byte{byte(c)})
		checkIntAsOther(t, s)
		for d := range 256 {
			s := s + string([]byte{byte(d)})
			checkIntAsOther(t, s)
			for _, e := range []string{"\x00", "\x01", "\x3f", "\x40", "\x7f", "\x80", "\xff"} {
				checkIntAsOther(t, s+e)
			}
		}
	}
}

// Each number with bytes more than it needs, up to more than any has.
func TestReadIntOfMoreBytesThanNeeded(t *testing.T) {
	for _, n := range numbers() {
		for _, s := range longer(plainInt(n)) {
			checkNoInt(t, s)
			checkNoInt(t, s+"more")
		}
	}
}

// longer: the bytes of a number, each time with more than it needs.
func longer(s string) []string {
	b := []byte(s)
	b[len(b)-1] |= 128
	var l []string
	for n := range 11 {
		l = append(l, string(b)+repeat("\x80", n)+"\x00")
	}
	return l
}

func TestReadIntOfMixedBytes(t *testing.T) {
	for _, m := range sample.Mixed(20000) {
		checkIntAsOther(t, sample.Bytes(m>>8, 16))
	}
}

// Numbers one behind the other are read one by one.
func TestReadIntOneByOne(t *testing.T) {
	l := numbers()
	var b strings.Builder
	for _, n := range l {
		b.WriteString(wire.Int(n))
	}
	s := b.String()
	var got []int
	for s != "" {
		n, rest, ok := wire.ReadInt(s)
		if !ok {
			t.Fatalf("behind %d numbers: none", len(got))
		}
		got = append(got, n)
		s = rest
	}
	if !slices.Equal(got, l) {
		t.Errorf("%d numbers, not the %d that were written", len(got), len(l))
	}
}

func TestText(t *testing.T) {
	for _, row := range []struct{ text, bytes string }{
		{"", "00"}, {"a", "0261"}, {"ab", "046162"}, {"\x00", "0200"}, {"\xff\xfe", "04fffe"}, {"\u20ac", "06e282ac"}, {"\x04ab", "06046162"},
		{text(63), "7e" + hex.EncodeToString([]byte(text(63)))}, {text(64), "8001" + hex.EncodeToString([]byte(text(64)))},
		{text(8191), "fe7f" + hex.EncodeToString([]byte(text(8191)))}, {text(8192), "808001" + hex.EncodeToString([]byte(text(8192)))},
	} {
		if got := wire.Text(row.text); got != bytesOf(row.bytes) {
			t.Errorf("Text(%x): %x, not %.200s", few(row.text), few(got), row.bytes)
		}
		checkText(t, row.text)
	}
}

func TestTextOfEachLength(t *testing.T) {
	for n := range 300 {
		checkText(t, text(n))
		checkText(t, repeat("\x00", n))
		checkText(t, repeat("\xff", n))
		checkText(t, repeat("\xe2", n)+"\x28\xa1")
	}
	for c := range 256 {
		checkText(t, string([]byte{byte(c)}))
		checkText(t, "a"+string([]byte{byte(c)})+"b")
	}
	for _, m := range sample.Mixed(300) {
		checkText(t, sample.Bytes(m>>8, 400))
	}
}

func TestReadTextOfEachMost(t *testing.T) {
	for _, n := range []int{0, 1, 2, 62, 63, 64, 65, 255, 256, 257} {
		s := wire.Text(text(n)) + "behind"
		for most := -300; most < 600; most++ {
			if most < n {
				checkNoText(t, s, most)
			} else {
				checkReadText(t, s, most, text(n), "behind")
			}
		}
		for _, most := range numbers() {
			checkTextAsOther(t, s, most)
		}
	}
}

// Lengths that no text has: below 0, more than stands behind, up to the greatest number; and those with more bytes than they need.
func TestReadTextOfNone(t *testing.T) {
	for _, n := range []int{0, 1, 2, 63, 64, 200} {
		s := text(n)
		for _, size := range []int{-1, -2, -n - 1, -n, n + 1, n + 2, 2*n + 1, 1 << 31, 1<<31 + n, 1 << 32, 1<<32 + n, -1<<32 + n, 1<<62 + n, math.MaxInt - 1, math.MaxInt, math.MinInt, math.MinInt + n, math.MinInt + 1} {
			if size == 0 {
				continue
			}
			for _, most := range []int{math.MinInt, -1, 0, n, n + 1, 1 << 40, math.MaxInt} {
				checkNoText(t, plainInt(size)+s, most)
			}
		}
		for _, size := range longer(plainInt(n)) {
			checkNoText(t, size+s, math.MaxInt)
			checkNoText(t, size+s+"more", n)
		}
		for _, most := range []int{math.MinInt, -1, 0, 1, math.MaxInt} {
			checkNoText(t, repeat("\x80", 10)+s, most)
			checkNoText(t, repeat("\xff", 9)+"\x02"+s, most)
			checkNoText(t, "", most)
		}
	}
}

func TestReadTextOfMixedBytes(t *testing.T) {
	for i, m := range sample.Mixed(20000) {
		s := sample.Bytes(m>>8, 40)
		if s != "" && i%2 == 0 {
			s = string([]byte{s[0] & 63}) + s[1:]
		}
		for _, most := range []int{-1, 0, 5, 20, 31, math.MaxInt} {
			checkTextAsOther(t, s, most)
		}
	}
}
