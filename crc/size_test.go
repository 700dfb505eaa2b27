package crc_test

import (
	"strings"
	"testing"

	"newsreel/crc"
)

// size: how many bytes long texts have.
const size = 1 << 20

// long: texts of so many bytes: of one byte, of a few, of a part, and of any ones.
func long() []string {
	l := []string{repeat("\x00", size), repeat("\xff", size), repeat("\x00", size-1) + "\x01", "\x80" + repeat("\x00", size-1), repeat("Storm hi", size/8), repeat("\u20ac ", size/4)}
	mixed := strings.Join(mixedTexts(size/100, 300), "")
	return append(l, mixed[:size])
}

// checkTurned: got is s with that burst, and nothing else turned.
func checkTurned(t *testing.T, got, s string, at int, by uint32) {
	t.Helper()
	if want := plainBurst(s, at, by); got != want {
		t.Errorf("%.20x of %d bytes at %d by %08x: not as the other way", s, len(s), at, by)
	}
}

func TestLongTexts(t *testing.T) {
	for _, s := range long() {
		if len(s) != size {
			t.Errorf("%.20x: %d bytes", s, len(s))
		}
		checkSum(t, s, plainSum(s))
		checkSum(t, s[1:], plainSum(s[1:]))
		checkRead(t, s, 0, false)
		sealed := crc.Seal(s)
		if sealed != plainSeal(s) {
			t.Errorf("Seal of %.20x", s)
		}
		checkOpen(t, sealed, s)
		checkNot(t, s)
		checkNot(t, sealed[1:]+"\x00")
		checkNot(t, sealed[:len(sealed)-1])
		checkNot(t, sealed+sealed[len(sealed)-4:])
	}
}

func TestBurstsOfLongTexts(t *testing.T) {
	for _, s := range long() {
		for _, at := range []int{-1, 0, 1, 7, 8, 31, 32, 4*size + 5, 8*size - 33, 8*size - 32, 8*size - 31, 8*size - 8, 8*size - 1, 8 * size, 8*size + 1} {
			for _, by := range []uint32{0, 1, 1 << 31, 0x80000001, all32} {
				checkTurned(t, crc.Burst(s, at, by), s, at, by)
			}
		}
	}
}

// In a text of 2^20 bytes, near its begin, amid, and where it meets its sum.
func TestBurstsInLongTextsAreSeen(t *testing.T) {
	for _, s := range long() {
		sealed := crc.Seal(s)
		for _, at := range []int{0, 13, 4*size + 3, 8*size - 16, 8*size - 1, 8 * size, 8*size + 31} {
			for _, by := range []uint32{1, 0x80000001, 0x12345679, all32} {
				turned := crc.Burst(sealed, at, by)
				checkTurned(t, turned, sealed, at, by)
				checkNot(t, turned)
			}
			checkOpen(t, crc.Burst(crc.Burst(sealed, at, all32), at, all32), s)
		}
	}
}

// TestTimeGrowsAsTheText: a text so long that one that was gone through anew for each byte would not come to its end within a test.
func TestTimeGrowsAsTheText(t *testing.T) {
	s := repeat("\x01\x02\x03\xff", 1<<22)
	checkSum(t, s, plainSum(s))
	sealed := crc.Seal(s)
	checkOpen(t, sealed, s)
	for at := range 3 {
		turned := crc.Burst(sealed, 8*len(s)-at, all32)
		checkNot(t, turned)
		if crc.Burst(turned, 8*len(s)-at, all32) != sealed {
			t.Errorf("at %d twice", at)
		}
	}
}
