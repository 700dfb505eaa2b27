package crc_test

import (
	"math"
	"strings"
	"testing"
	"unsafe"

	"newsreel/crc"
	"newsreel/sample"
)

var repeat = strings.Repeat

// sums: texts, and their sums.
var sums = []struct {
	text string
	sum  uint32
}{
	{"123456789", 0xcbf43926}, // the chapter's
	{"", 0},
	{"a", 0xe8b7be43},
	{"ab", 0x9e83486d},
	{"ba", 0x2ca74a14},
	{"abc", 0x352441c2},
	{"hello", 0x3610a686},
	{" ", 0xe96ccf45},
	{"The quick brown fox jumps over the lazy dog", 0x414fa339},
	{"\x00", 0xd202ef8d},
	{"\x01", 0xa505df1b},
	{"\x80", 0x3fba6cad},
	{"\xff", 0xff000000},
	{"\x00\x01", 0x36de2269},
	{"\x01\x00", 0x58c223be},
	{"\x00\x00", 0x41d912ff},
	{"\x00\x00\x00", 0xff41d912},
	{"\x00\x00\x00\x00", 0x2144df1c},
	{repeat("\x00", 32), 0x190a55ad},
	{repeat("\x00", 60), 0x04128908},
	{repeat("\x00", 64), 0x758d6336},
	{"\xff\xff", 0xffff0000},
	{"\xff\xff\xff", 0xffffff00},
	{"\xff\xff\xff\xff", 0xffffffff},
	{repeat("\xff", 32), 0xff6cab0b},
	{repeat("\xff", 64), 0x0f6187ba},
	{"\u20ac", 0x83f2c8d6},
	{"\ufffd", 0x8b7233c9},
	{"\xc3\x28", 0x94bb3e88}, // no text, and what follows
	{"\xed\xa0\x80", 0x1dc4a528},
}

// numbers: edges, each bit alone and all but it, and mixed ones, n of them.
func numbers(n int) []uint32 {
	l := []uint32{0, 1, 254, 255, 256, 257, 1<<16 - 1, 1 << 16, 1<<16 + 1, 1<<24 - 1, 1 << 24, 1<<31 - 1, 1 << 31, 1<<31 + 1, math.MaxUint32 - 1, math.MaxUint32,
		0xff, 0xff00, 0xff0000, 0xff000000, 0x00ff00ff, 0x55555555, 0xaaaaaaaa, 0x01020304, 0x04030201, 0xedb88320, 0x04c11db7}
	for bit := range 32 {
		l = append(l, 1<<bit, ^uint32(0)^1<<bit)
	}
	for _, m := range sample.Mixed(n) {
		l = append(l, uint32(m>>16))
	}
	return l
}

// mixedTexts: n texts of fewer than most bytes, any ones.
func mixedTexts(n int, most uint64) []string {
	var l []string
	for _, m := range sample.Mixed(n) {
		l = append(l, sample.Bytes(m>>8, most))
	}
	return l
}

// checkSum: want is the sum of s, the other way too.
func checkSum(t *testing.T, s string, want uint32) {
	t.Helper()
	if n := plainSum(s); n != want {
		t.Errorf("the other way the sum of %.100q is %08x, not %08x", s, n, want)
	}
	if got := crc.Sum(s); got != want {
		t.Errorf("Sum(%.100q): %08x, not %08x", s, got, want)
	}
}

// checkFour: want is the bytes of n, and they are read so.
func checkFour(t *testing.T, n uint32, want string) {
	t.Helper()
	if got := crc.Four(n); got != want {
		t.Errorf("Four(%08x): %x, not %x", n, got, want)
	}
	checkRead(t, want, n, true)
}

// checkRead: of s that number is read, or none.
func checkRead(t *testing.T, s string, want uint32, good bool) {
	t.Helper()
	if got, ok := crc.Read(s); got != want || ok != good {
		t.Errorf("Read(%.100x): %08x, %v, not %08x, %v", s, got, ok, want, good)
	}
}

// checkOpen: of s that is opened.
func checkOpen(t *testing.T, s, want string) {
	t.Helper()
	if got, ok := crc.Open(s); got != want || !ok {
		t.Errorf("Open(%.100x): %.100x, %v, not %.100x", s, got, ok, want)
	}
}

// checkNot: s isn't opened.
func checkNot(t *testing.T, s string) {
	t.Helper()
	if got, ok := crc.Open(s); got != "" || ok {
		t.Errorf("Open(%.100x): %.100x, %v, not nothing", s, got, ok)
	}
}

// checkAsOther: s is opened as it is the other way, or isn't.
func checkAsOther(t *testing.T, s string) {
	t.Helper()
	if want, ok := plainOpen(s); ok {
		checkOpen(t, s, want)
	} else {
		checkNot(t, s)
	}
}

// checkSealed: s is sealed, as it is the other way, and opened.
func checkSealed(t *testing.T, s string) {
	t.Helper()
	if got, want := crc.Seal(s), plainSeal(s); got != want {
		t.Errorf("Seal(%.100x): %.100x, not %.100x", s, got, want)
	}
	checkOpen(t, crc.Seal(s), s)
}

func TestTheChaptersExamples(t *testing.T) {
	checkSum(t, "123456789", 0xcbf43926)
	if got := crc.Burst("\x00\x00", 7, 3); got != "\x80\x01" {
		t.Errorf("Burst of two bytes 0 at 7 by 3: %x", got)
	}
}

func TestSum(t *testing.T) {
	for _, row := range sums {
		checkSum(t, row.text, row.sum)
	}
}

func TestSumOfEachByteAndEachPair(t *testing.T) {
	seen := map[uint32]bool{}
	for c := range 256 {
		s := string([]byte{byte(c)})
		seen[crc.Sum(s)] = true
		for _, s := range []string{s, "a" + s, s + "a", "\x00" + s, s + "\x00", "\xff" + s, s + "\xff", repeat(s, 7), repeat(s, 256)} {
			checkSum(t, s, plainSum(s))
		}
		for d := range 256 {
			s := string([]byte{byte(c), byte(d)})
			checkSum(t, s, plainSum(s))
		}
	}
	if len(seen) != 256 {
		t.Errorf("the 256 bytes have %d sums", len(seen))
	}
}

// Texts of one byte only are told apart by how many there are.
func TestSumOfBytes0AndOfBytes255(t *testing.T) {
	for _, part := range []string{"\x00", "\xff"} {
		seen := map[uint32]bool{}
		for n := range 1000 {
			s := repeat(part, n)
			checkSum(t, s, plainSum(s))
			checkSealed(t, s)
			seen[crc.Sum(s)] = true
		}
		if len(seen) != 1000 {
			t.Errorf("1000 texts of %q have %d sums", part, len(seen))
		}
	}
}

func TestSumOfMixedBytes(t *testing.T) {
	for _, s := range mixedTexts(5000, 200) {
		checkSum(t, s, plainSum(s))
	}
}

// Of three texts of one length the sums, mixed, are that of the mixed texts.
func TestSumsAreMixedAsTextsAre(t *testing.T) {
	for _, s := range mixedTexts(500, 90) {
		n := len(s) / 3
		a, b, c := s[:n], s[n:2*n], s[2*n:3*n]
		all := make([]byte, n)
		for i := range all {
			all[i] = a[i] ^ b[i] ^ c[i]
		}
		checkSum(t, string(all), crc.Sum(a)^crc.Sum(b)^crc.Sum(c))
	}
}

func TestFour(t *testing.T) {
	checkFour(t, 0, "\x00\x00\x00\x00")
	checkFour(t, 1, "\x01\x00\x00\x00")
	checkFour(t, 255, "\xff\x00\x00\x00")
	checkFour(t, 256, "\x00\x01\x00\x00")
	checkFour(t, 1<<16-1, "\xff\xff\x00\x00")
	checkFour(t, 1<<16, "\x00\x00\x01\x00")
	checkFour(t, 1<<24-1, "\xff\xff\xff\x00")
	checkFour(t, 1<<24, "\x00\x00\x00\x01")
	checkFour(t, 1<<31-1, "\xff\xff\xff\x7f")
	checkFour(t, 1<<31, "\x00\x00\x00\x80")
	checkFour(t, 1<<32-2, "\xfe\xff\xff\xff")
	checkFour(t, 1<<32-1, "\xff\xff\xff\xff")
	checkFour(t, 0x04030201, "\x01\x02\x03\x04") // the lowest first
	checkFour(t, 0x64636261, "abcd")
	checkFour(t, 0xac82e261, "a\xe2\x82\xac")
}

func TestFourOfManyNumbers(t *testing.T) {
	for _, n := range numbers(5000) {
		checkFour(t, n, plainFour(n))
	}
}

// Each byte at each of the four places.
func TestEachByteOfNumbers(t *testing.T) {
	for place := range 4 {
		for c := range 256 {
			for _, other := range []byte{0, 'a', 255} {
				b := []byte{other, other, other, other}
				b[place] = byte(c)
				n := uint32(b[0]) + uint32(b[1])*256 + uint32(b[2])*65536 + uint32(b[3])*16777216
				checkFour(t, n, string(b))
			}
		}
	}
}

func TestTextsThatAreNoNumber(t *testing.T) {
	for n := range 300 {
		for _, part := range []string{"\x00", "\x01", "a", "\xff"} {
			if n != 4 {
				checkRead(t, repeat(part, n), 0, false)
			}
		}
	}
	for _, s := range []string{"", "1", "abc", "abcde", "abcdefgh", "\u20ac", "\u20acab", "\U0001f600a", repeat("a", 260), repeat("\x00", 1<<16+4), repeat("\xff", 1<<20)} {
		checkRead(t, s, 0, false)
	}
	checkRead(t, "\U0001f600", 0x80989ff0, true) // a rune of four bytes
}

func TestSeal(t *testing.T) {
	for _, row := range sums {
		n := row.sum
		want := row.text + string([]byte{byte(n), byte(n >> 8), byte(n >> 16), byte(n >> 24)})
		if got := crc.Seal(row.text); got != want {
			t.Errorf("Seal(%q): %x, not %x", row.text, got, want)
		}
		checkOpen(t, want, row.text)
	}
	checkOpen(t, "123456789\x26\x39\xf4\xcb", "123456789")
	checkOpen(t, "\x00\x00\x00\x00", "")
}

func TestSealOfMixedBytes(t *testing.T) {
	for _, s := range mixedTexts(3000, 100) {
		checkSealed(t, s)
	}
}

// The sum of what was sealed is always the same one, and what was sealed may be sealed again.
func TestSealedTwice(t *testing.T) {
	for _, s := range append(mixedTexts(300, 100), "", "a", "\x00", "\xff") {
		sealed := crc.Seal(s)
		checkSum(t, sealed, 0x2144df1c)
		checkSealed(t, sealed)
		for range 5 {
			sealed = crc.Seal(sealed)
		}
		for range 5 {
			sealed, _ = crc.Open(sealed)
		}
		checkOpen(t, sealed, s)
	}
}

// Of texts of up to three bytes none is sealed.
func TestTextsTooShortToBeSealed(t *testing.T) {
	checkNot(t, "")
	for c := range 256 {
		one := string([]byte{byte(c)})
		checkNot(t, one)
		for d := range 256 {
			two := one + string([]byte{byte(d)})
			checkNot(t, two)
			for _, e := range []string{"\x00", "\x01", "a", "\x8d", "\xff", one} {
				checkNot(t, two+e)
			}
		}
	}
}

// Of the texts of four bytes four bytes 0 alone are sealed.
func TestTextsOfFourBytes(t *testing.T) {
	for _, n := range numbers(20000) {
		if n != 0 {
			checkNot(t, plainFour(n))
		}
	}
	for c := range 256 {
		s := string([]byte{byte(c)})
		for _, s := range []string{s + s + s + s, s + "\x00\x00\x00", "\x00" + s + "\x00\x00", "\x00\x00" + s + "\x00", "\x00\x00\x00" + s} {
			checkAsOther(t, s)
		}
	}
}

func TestTextsThatNothingHasSealed(t *testing.T) {
	for _, row := range sums {
		if row.text != "\x00\x00\x00\x00" { // that is nothing, sealed
			checkNot(t, row.text)
		}
	}
	for _, s := range append(mixedTexts(20000, 30), "abcd", "abcde", repeat("\x00", 5), repeat("\x00", 8), repeat("\xff", 8), "cbf43926", "123456789cbf43926") {
		checkAsOther(t, s)
	}
}

// edged: texts whose sums aren't the same bytes from both sides, and not each other's.
func edged() []string {
	return []string{"a", "ab", "abc", "abcd", "123456789", "\x00", "\x00\x00\x00", "\xff", "\xff\xff", "hello, world", "\xe2\x82", repeat("x", 60), repeat("\x00", 60), repeat("\xff", 100)}
}

func TestSumsThatAreNotTheirs(t *testing.T) {
	for _, s := range edged() {
		n := crc.Sum(s)
		b := []byte(crc.Four(n))
		back := string([]byte{b[3], b[2], b[1], b[0]})
		checkNot(t, s+back)
		checkNot(t, s+crc.Four(^n)) // not turned at the end
		checkNot(t, s+crc.Four(n+1))
		checkNot(t, s+crc.Four(n-1))
		checkNot(t, s+crc.Four(0))
		checkNot(t, s+crc.Four(n)+crc.Four(n))
		checkNot(t, crc.Four(n)+s)
		for bit := range 32 {
			checkNot(t, s+crc.Four(n^1<<bit))
		}
		for place := range 4 {
			for c := range 256 {
				other := []byte(crc.Four(n))
				other[place] = byte(c)
				checkAsOther(t, s+string(other))
			}
		}
	}
}

func TestSumsOfOtherTexts(t *testing.T) {
	for _, s := range edged() {
		for _, other := range append(edged(), "") {
			if other != s {
				checkNot(t, s+crc.Four(crc.Sum(other)))
			}
		}
		checkNot(t, s+crc.Four(crc.Sum(s+" ")))
		checkNot(t, s+crc.Four(crc.Sum(s[1:])))
		checkNot(t, s+crc.Four(crc.Sum(s[:len(s)-1])))
	}
}

// One byte more or less, at either end.
func TestBytesMoreOrLess(t *testing.T) {
	for _, s := range append(edged(), "") {
		sealed := crc.Seal(s)
		checkNot(t, sealed[1:])
		checkNot(t, sealed[:len(sealed)-1])
		checkNot(t, sealed+sealed[len(sealed)-1:])
		for c := range 256 {
			more := string([]byte{byte(c)})
			checkAsOther(t, more+sealed)
			checkAsOther(t, sealed+more)
			for _, again := range []string{"\x00", "\xff", more} {
				checkAsOther(t, sealed+more+again)
			}
		}
		for n := range len(sealed) {
			checkAsOther(t, sealed[n:])
			checkAsOther(t, sealed[:n])
		}
	}
	checkNot(t, "\x00"+"\x00\x00\x00\x00")
	checkNot(t, "\x00\x00\x00\x00"+"\x00")
	checkNot(t, " "+crc.Seal("abc"))
	checkNot(t, crc.Seal("abc")+" ")
	checkNot(t, crc.Seal("abc")+"\x00")
}

// given: the text s in memory that may be changed behind a call, with spare room.
func given(s string) (string, []byte) {
	b := []byte(s + "spare room")
	return unsafe.String(&b[0], len(s)), b
}

// What was given is changed behind the call: no answer turns with it, and the call has changed nothing.
func checkApart(t *testing.T, what, text, want string, call func(string) string) {
	t.Helper()
	s, b := given(text)
	got := call(s)
	if string(b) != text+"spare room" {
		t.Errorf("%s of %.100x changed it: %.100x", what, text, b)
	}
	for i := range b {
		b[i] ^= 0x55
	}
	if got != want {
		t.Errorf("%s of %.100x, turned: %.100x, not %.100x", what, text, got, want)
	}
}

func TestAnswersShareNothing(t *testing.T) {
	opened := func(s string) string { s, _ = crc.Open(s); return s }
	for _, s := range append(edged(), "", repeat("long", 1000)) {
		sealed := plainSeal(s)
		checkApart(t, "Sum", s, plainFour(plainSum(s)), func(s string) string { return plainFour(crc.Sum(s)) })
		checkApart(t, "Seal", s, sealed, crc.Seal)
		checkApart(t, "Open", sealed, s, opened)
		checkApart(t, "Open", sealed+"x", "", opened)
		for _, at := range []int{math.MinInt, -1, 0, 5, 8*len(s) - 1, 8 * len(s), math.MaxInt} {
			for _, by := range []uint32{0, 1, 0x80000001, math.MaxUint32} {
				checkApart(t, "Burst", s, plainBurst(s, at, by), func(s string) string { return crc.Burst(s, at, by) })
			}
		}
	}
	for _, s := range []string{"", "abc", "abcd", "abcde"} {
		want, _ := crc.Read(s)
		checkApart(t, "Read", s, plainFour(want), func(s string) string { n, _ := crc.Read(s); return plainFour(n) })
	}
}

func TestNothingIsKept(t *testing.T) {
	for i, s := range mixedTexts(500, 100) {
		crc.Sum(s)
		crc.Open(s)
		crc.Open(crc.Seal(s))
		crc.Read(s)
		crc.Burst(s, i, uint32(i)*77777)
		checkSum(t, "123456789", 0xcbf43926)
		checkSum(t, "", 0)
		checkFour(t, 0x04030201, "\x01\x02\x03\x04")
		checkSealed(t, "abc")
		checkBurst(t, "\x00\x00", 7, 3, "\x80\x01")
	}
}

func FuzzCrc(f *testing.F) {
	for i, row := range sums {
		f.Add(row.text, i*3, row.sum)
		f.Add(crc.Seal(row.text), -i, row.sum>>i)
	}
	f.Fuzz(func(t *testing.T, s string, at int, by uint32) {
		checkSum(t, s, plainSum(s))
		checkSealed(t, s)
		checkAsOther(t, s)
		checkFour(t, by, plainFour(by))
		if len(s) == 4 {
			checkFour(t, uint32(s[0])+uint32(s[1])*256+uint32(s[2])*65536+uint32(s[3])*16777216, s)
		} else {
			checkRead(t, s, 0, false)
		}
		for _, at := range []int{at, at % (8*len(s) + 40)} {
			checkBurst(t, s, at, by, plainBurst(s, at, by))
			checkSeen(t, s, at, by)
		}
	})
}
