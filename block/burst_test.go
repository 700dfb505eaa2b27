package block_test

import (
	"math/bits"
	"slices"
	"strings"
	"testing"

	"newsreel/crc"
	"newsreel/sample"
)

// P19.3: of any beginning, and behind any burst, just those records are read that are whole, as they were.

// held: those of the records whose blocks lie in the first n bytes, and how many bytes these have.
func held(l []string, n int) ([]string, int) {
	end := 0
	for i, s := range l {
		next := end + 64*plainCount(len(s))
		if next > n {
			return l[:i], end
		}
		end = next
	}
	return l, end
}

// checkCut: of the first n bytes of the file of these records those are read that are whole.
func checkCut(t *testing.T, l []string, file string, n int) {
	t.Helper()
	want, end := held(l, n)
	checkScan(t, file[:min(n, len(file))], end, want...)
}

// checkBurst: behind that burst those records of the file are read that are ahead of the block in which it turns the first bit.
func checkBurst(t *testing.T, l []string, file string, at int, by uint32) {
	t.Helper()
	turned := crc.Burst(file, at, by)
	if other := plainBurst(file, at, by); other != turned {
		t.Errorf("the burst at %d by %08x", at, by)
	}
	ahead := len(file) // nothing is turned
	if bit := at + bits.TrailingZeros32(by); by != 0 && bit < 8*len(file) {
		ahead = bit / 8 / 64 * 64
	}
	want, end := held(l, ahead)
	checkScan(t, turned, end, want...)
}

// files: lists of records whose files are short.
func files() [][]string {
	return [][]string{
		{"hello"},
		{"", ""},
		{text(54), "", "a"},
		{text(55), "b"},
		{"a", text(109), "", repeat("\x00", 60)},
		{repeat("\xff", 54), repeat("\x00", 54), repeat("\x00", 55)},
	}
}

func TestEachBeginning(t *testing.T) {
	for _, l := range files() {
		s := file(t, l...)
		for n := range len(s) + 1 {
			checkCut(t, l, s, n)
		}
	}
	l := slices.Concat(files()...)
	s := file(t, l...)
	for n := range len(s) + 1 {
		checkCut(t, l, s, n)
	}
}

func TestEachBit(t *testing.T) {
	for _, l := range files() {
		s := file(t, l...)
		for at := range 8*len(s) + 3 {
			checkBurst(t, l, s, at, 1)
			checkBurst(t, l, s, at, 0)
		}
	}
}

// Two bits, as far as one burst reaches, over the end of a block and of the file too.
func TestEachPairOfBits(t *testing.T) {
	l := []string{"a", text(60)}
	s := file(t, l...)
	for at := range 8*len(s) + 3 {
		for k := range 32 {
			checkBurst(t, l, s, at, 1|1<<k)
		}
	}
}

// All bits of a burst, and mixed ones, at each place.
func TestBurstsAtEachPlace(t *testing.T) {
	mixed := sample.Mixed(8 * 64 * 9)
	for _, l := range files() {
		s := file(t, l...)
		for at := range 8*len(s) + 40 {
			m := mixed[at%len(mixed)]
			for _, by := range []uint32{1<<32 - 1, 1 << 31, 0x80000001, 0xffff0000, uint32(m), uint32(m >> 32)} {
				checkBurst(t, l, s, at, by)
			}
		}
	}
}

// A burst, and the end cut away: both count.
func TestBurstsInBeginnings(t *testing.T) {
	for _, l := range files() {
		s := file(t, l...)
		for i, m := range sample.Mixed(2000) {
			n := int(m>>4) % (len(s) + 1)
			kept, _ := held(l, n)
			at := int(m>>20) % (8*n + 1)
			part := s[:n]
			ahead := len(part)
			by := uint32(m>>32) >> (i % 32)
			if bit := at + bits.TrailingZeros32(by); by != 0 && bit < 8*n {
				ahead = bit / 8 / 64 * 64
			}
			want, end := held(kept, ahead)
			checkScan(t, crc.Burst(part, at, by), end, want...)
		}
	}
}

// mixedRecords: lists of records of few and of many bytes, by mixed numbers.
func mixedRecords(n int) [][]string {
	var lists [][]string
	for i, m := range sample.Mixed(n) {
		var l []string
		for k := range m >> 5 % 40 {
			l = append(l, sample.Bytes(m>>k, []uint64{3, 60, 200, 2000}[(m>>k>>3)%4]))
		}
		if i%10 == 0 {
			l = append(l, repeat("\x00", int(m>>8%20000)), "", text(54*int(m>>9%10)))
		}
		lists = append(lists, l)
	}
	return lists
}

func TestMixedFiles(t *testing.T) {
	for _, l := range mixedRecords(300) {
		s := file(t, l...)
		if s != plainFile(l...) {
			t.Errorf("the file of %.300x", l)
		}
		checkScan(t, s, len(s), l...)
		checkScan(t, s+text(len(l)), len(s), l...)
	}
}

func TestMixedBurstsAndBeginningsOfLongerFiles(t *testing.T) {
	for i, l := range mixedRecords(200) {
		s := file(t, l...)
		for _, m := range sample.Mixed(30 + i)[i:] {
			checkCut(t, l, s, int(m>>12)%(len(s)+1))
			checkCut(t, l, s, int(m>>12)%(len(s)+1)/64*64)
			at := int(m>>20) % (8*len(s) + 1)
			checkBurst(t, l, s, at, uint32(m>>32))
			checkBurst(t, l, s, at/512*512, uint32(m>>32)|1)
			checkBurst(t, l, s, max(at/512*512-16, 0), uint32(m>>32)|1<<15|1<<16) // from one block into the next
		}
	}
}

// Bursts that turn nothing: behind the end, and ahead of the begin.
func TestBurstsThatTurnNothing(t *testing.T) {
	l := slices.Concat(files()...)
	s := file(t, l...)
	for _, at := range append(sample.Away(8*len(s)), 8*len(s)+31) {
		checkScan(t, crc.Burst(s, at, 1<<32-1), len(s), l...)
	}
}

// One bit turned in each block of a long file, of one long record and of many short ones.
func TestABitOfEachBlock(t *testing.T) {
	for _, l := range [][]string{strings.Split(repeat("x", 200), ""), {"a", text(54 * 100), "b", text(54*90 + 1), "c"}} {
		s := file(t, l...)
		for i := range len(s) / 64 {
			for _, bit := range []int{0, 8, 16, 100 + i%200, 480 + i%32} {
				checkBurst(t, l, s, 512*i+bit, 1)
			}
		}
	}
}
