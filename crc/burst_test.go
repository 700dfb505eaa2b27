package crc_test

import (
	"math"
	"testing"

	"newsreel/crc"
	"newsreel/sample"
)

const all32 = math.MaxUint32

// checkBurst: want is s with that burst, the other way too; the same once more leads back.
func checkBurst(t *testing.T, s string, at int, by uint32, want string) {
	t.Helper()
	if other := plainBurst(s, at, by); other != want {
		t.Errorf("the other way the burst of %.100x at %d by %08x is %.100x, not %.100x", s, at, by, other, want)
	}
	got := crc.Burst(s, at, by)
	if got != want {
		t.Errorf("Burst(%.100x, %d, %08x): %.100x, not %.100x", s, at, by, got, want)
	}
	if back := crc.Burst(got, at, by); back != s {
		t.Errorf("Burst(%.100x, %d, %08x) twice: %.100x", s, at, by, back)
	}
}

// checkSeen: what was sealed of s isn't opened behind that burst, if that turns anything (P18.3).
func checkSeen(t *testing.T, s string, at int, by uint32) {
	t.Helper()
	sealed := crc.Seal(s)
	turned := crc.Burst(sealed, at, by)
	if turned == sealed {
		checkOpen(t, turned, s)
	} else {
		checkNot(t, turned)
	}
	checkOpen(t, crc.Burst(turned, at, by), s)
}

// far: places that no text of these tests has, the ends of their type among them, and such whose low bits alone would be one.
func far() []int {
	l := []int{-1 << 62, -1 << 61, -1 << 60, -1<<35 + 1, -1 << 35, -33, -32, -31, -9, -8, -7, -3,
		1 << 29, 1<<31 - 8, 1<<32 - 1, 1<<32 + 7, 1<<32 + 8, 1 << 34, 1 << 35, 1<<35 + 7, 1 << 59, 1 << 60, 1<<60 + 1, 1 << 61, 1<<61 + 8, 1 << 62}
	for n := range 40 {
		l = append(l, math.MaxInt-n, math.MinInt+n)
	}
	return append(l, sample.Away(1<<20)...)
}

func TestBurst(t *testing.T) {
	const none = "\x00\x00\x00\x00\x00\x00\x00\x00"
	for _, row := range []struct {
		s    string
		at   int
		by   uint32
		want string
	}{
		{"\x00\x00", 7, 3, "\x80\x01"}, // the chapter's
		{none, 0, 0, none},
		{none, 0, 1, "\x01" + none[1:]},
		{none, 1, 1, "\x02" + none[1:]},
		{none, 7, 1, "\x80" + none[1:]},
		{none, 8, 1, "\x00\x01" + none[2:]},
		{none, 31, 1, "\x00\x00\x00\x80" + none[4:]},
		{none, 32, 1, none[4:] + "\x01" + none[5:]},
		{none, 63, 1, none[1:] + "\x80"},
		{none, 64, 1, none},
		{none, 65, 1, none},
		{none, -1, 1, none},
		{none, 0, 1 << 31, "\x00\x00\x00\x80" + none[4:]},
		{none, 1, 1 << 31, none[4:] + "\x01" + none[5:]},
		{none, 32, 1 << 31, none[1:] + "\x80"},
		{none, 33, 1 << 31, none},
		{none, 0, all32, "\xff\xff\xff\xff" + none[4:]},
		{none, 1, all32, "\xfe\xff\xff\xff\x01" + none[5:]},
		{none, 7, all32, "\x80\xff\xff\xff\x7f" + none[5:]},
		{none, 8, all32, "\x00\xff\xff\xff\xff" + none[5:]},
		{none, 31, all32, "\x00\x00\x00\x80\xff\xff\xff\x7f"},
		{none, 32, all32, none[4:] + "\xff\xff\xff\xff"},
		{none, 33, all32, none[4:] + "\xfe\xff\xff\xff"}, // from here on it goes over the end
		{none, 40, all32, none[3:] + "\xff\xff\xff"},
		{none, 56, all32, none[1:] + "\xff"},
		{none, 63, all32, none[1:] + "\x80"},
		{none, 64, all32, none},
		{none, -1, all32, none}, // nothing of it, though 31 of its bits would lie in the bytes
		{none, 0, 0x04030201, "\x01\x02\x03\x04" + none[4:]},
		{none, 32, 0x04030201, none[4:] + "\x01\x02\x03\x04"},
		{"\xff\xff", 7, 3, "\x7f\xfe"},
		{"\xff", 0, all32, "\x00"},
		{"abcd", 0, 0x64636261, "\x00\x00\x00\x00"},
		{"abcd", 5, 1, "Abcd"},
		{"abcd", 29, 1, "abcD"},
		{"", 0, all32, ""},
		{"", 1, 1, ""},
		{"", -1, 1, ""},
		{"", 0, 0, ""},
		{"\u20ac", 0, 0x80, "\x62\x82\xac"}, // bytes, whatever they were of
	} {
		checkBurst(t, row.s, row.at, row.by, row.want)
	}
}

// Each of the 32 bits alone, at each place, ahead of the bytes' begin and beyond their end too.
func TestEachBitOfBursts(t *testing.T) {
	for n := range 12 {
		for _, s := range []string{repeat("\x00", n), repeat("\xff", n), repeat("Storm", 3)[:n]} {
			for at := -40; at < 8*n+40; at++ {
				for k := range 32 {
					want := []byte(s)
					if bit := at + k; at >= 0 && bit < 8*n {
						want[bit/8] ^= 1 << (bit % 8)
					}
					checkBurst(t, s, at, 1<<k, string(want))
				}
			}
		}
	}
}

func TestBurstsOfManyBits(t *testing.T) {
	bits := numbers(50)
	for n := range 12 {
		for _, s := range []string{repeat("\x00", n), repeat("\xff", n), repeat("Coast", 3)[:n]} {
			for at := -40; at < 8*n+40; at++ {
				for _, by := range bits {
					checkBurst(t, s, at, by, plainBurst(s, at, by))
				}
			}
		}
	}
}

// A burst is what its bits are, one by one.
func TestBurstsBitByBit(t *testing.T) {
	const s = "The power goes off"
	for _, by := range numbers(50) {
		for at := range 8*len(s) + 3 {
			want := s
			for k := range 32 {
				want = crc.Burst(want, at+k, by>>k&1)
			}
			checkBurst(t, s, at, by, want)
		}
	}
}

func TestPlacesThatAreNotThere(t *testing.T) {
	for _, s := range []string{"", "a", "abcd", "abcdefgh", repeat("\x00", 100), repeat("\xff", 1<<16)} {
		for _, at := range append(far(), 8*len(s), 8*len(s)+1, 8*len(s)+31, 64*len(s)+64) {
			for _, by := range []uint32{0, 1, 2, 3, 1 << 31, 0x80000001, all32} {
				checkBurst(t, s, at, by, s)
			}
		}
	}
}

// The last bit may be turned, from each place that reaches it, and nothing beyond it is.
func TestTheBytesEnd(t *testing.T) {
	for _, s := range []string{"a", "ab", "abcd", "hello", repeat("x", 64), repeat("y", 1000)} {
		end := 8 * len(s)
		last := []byte(s)
		last[len(last)-1] ^= 0x80
		for k := range min(32, end) {
			checkBurst(t, s, end-1-k, 1<<k, string(last))
			checkBurst(t, s, end-k, 1<<k, s)
			checkBurst(t, s, end-1-k, all32<<k, string(last)) // the others would lie beyond
			checkBurst(t, s, end-k, all32<<k, s)
		}
	}
}

func TestMixedBursts(t *testing.T) {
	texts := mixedTexts(5000, 60)
	for i, m := range sample.Mixed(5000) {
		s := texts[i]
		for _, at := range []int{int(m >> 8 % 500), int(m>>20) % (8*len(s) + 1), int(m), -int(m >> 40)} {
			checkBurst(t, s, at, uint32(m>>32), plainBurst(s, at, uint32(m>>32)))
		}
	}
}

// P18.3: short texts, each place, each bit alone, each two and all of them, and mixed ones.
func TestBurstsInShortTextsAreSeen(t *testing.T) {
	bits := numbers(40)
	for k := range 32 {
		bits = append(bits, 1|1<<k, 1<<31|1<<k, all32>>k, all32<<k)
	}
	for n := range 9 {
		for _, s := range []string{repeat("\x00", n), repeat("\xff", n), "Storm hits"[:n]} {
			for at := -33; at < 8*(n+4)+33; at++ {
				for _, by := range bits {
					checkSeen(t, s, at, by)
				}
			}
		}
	}
}

// Any one or two bits, wherever in text and sum they are, as far as one burst reaches.
func TestEachPairOfBitsIsSeen(t *testing.T) {
	for _, s := range []string{"", "a", "hello", repeat("x", 60)} {
		for at := range 8 * (len(s) + 4) {
			for k := range 32 {
				checkSeen(t, s, at, 1|1<<k)
			}
		}
	}
}

// All bursts of 16 bits, from the text into its sum.
func TestEachBurstOf16BitsIsSeen(t *testing.T) {
	for _, s := range []string{"", "a", "\x00\x00", "coast"} {
		sealed := crc.Seal(s)
		for _, at := range []int{0, 3, 8*len(s) - 8, 8 * len(s), 8*len(s) + 16, 8*len(s) + 25} {
			for by := range uint32(1 << 16) {
				turned := crc.Burst(sealed, at, by)
				if text, ok := crc.Open(turned); ok != (turned == sealed) || !ok && text != "" || ok && text != s {
					t.Fatalf("%q at %d by %08x: %x, opened: %q, %v", s, at, by, turned, text, ok)
				}
			}
		}
	}
}

func TestMixedBurstsAreSeen(t *testing.T) {
	texts := mixedTexts(3000, 300)
	for i, m := range sample.Mixed(3000) {
		s, by := texts[i], uint32(m>>32)
		end := 8 * (len(s) + 4)
		for _, at := range []int{int(m>>1) % end, end - 1 - i%32, end - 32 - i%32, i % 32} {
			checkSeen(t, s, at, by)
			checkSeen(t, s, at, by|1)
			checkSeen(t, s, at, by|1<<31)
			checkSeen(t, s, at, all32)
		}
	}
}

// Bursts in what was sealed twice are seen by the outer sum.
func TestBurstsInWhatWasSealedTwice(t *testing.T) {
	for _, s := range []string{"", "abc", "123456789"} {
		sealed := crc.Seal(s)
		for at := range 8 * (len(sealed) + 4) {
			for _, by := range numbers(20) {
				checkSeen(t, sealed, at, by)
			}
		}
	}
}

// 33 bits, those that sums are made by, are more than a burst has: they turn what was sealed into something else that is. No other order of bits, or of bytes, would have them.
func TestOneBitMoreIsNotAlwaysSeen(t *testing.T) {
	for _, s := range []string{"abc", "123456789", "\x00", "", repeat("\xff", 30)} {
		sealed := crc.Seal(s)
		for at := range 8*len(sealed) - 32 {
			turned := crc.Burst(crc.Burst(sealed, at, 1), at+1, 0xedb88320)
			checkOpen(t, turned, turned[:len(s)])
			if turned == sealed {
				t.Errorf("%x at %d: nothing was turned", sealed, at)
			}
		}
	}
}
