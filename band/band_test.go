package band_test

import (
	"math"
	"slices"
	"strconv"
	"testing"

	"newsreel/api"
	"newsreel/band"
	"newsreel/hamming"
	"newsreel/sample"
)

const all = math.MaxUint64

// widths: how many bits the bands by d have, told another way: the 64 bits are dealt out one by one.
func widths(d int) []int {
	l := make([]int, d+1)
	for bit := range 64 {
		l[bit%(d+1)]++
	}
	return l
}

// expected: the bands of s told another way: its digits in base two cut from behind.
func expected(s uint64, d int) []uint64 {
	digits := sample.Digits(s)
	var l []uint64
	for _, w := range widths(d) {
		at := len(digits) - w
		x, _ := strconv.ParseUint(digits[at:], 2, 64)
		l, digits = append(l, x), digits[:at]
	}
	return l
}

// numbers: the edges, each stretch of bits from the lowest on, and mixed numbers, n of them.
func numbers(n int) []uint64 {
	l := append(sample.Edges(), sample.Mixed(n)...)
	for bit := range 64 {
		l = append(l, 1<<bit-1)
	}
	return l
}

// lone: 1 at bit n of band number i.
func lone(d, i, n int) uint64 { return 1 << (band.Start(d, i) + n) }

// full: all bits of band number i, by the widths told another way.
func full(d, i int) uint64 {
	s, bit := uint64(0), 0
	for n, w := range widths(d) {
		for range w {
			if n == i {
				s |= 1 << bit
			}
			bit++
		}
	}
	return s
}

// checkBands: that these are the bands of s by d, told at once and one by one, and no others.
func checkBands(t *testing.T, s uint64, d int, want ...uint64) {
	t.Helper()
	if got := band.Bands(s, d); !slices.Equal(got, want) {
		t.Errorf("Bands(%x, %d): %x, not %x", s, d, got, want)
	}
	for i, x := range want {
		if got := band.Band(s, d, i); got != x {
			t.Errorf("Band(%x, %d, %d): %x, not %x", s, d, i, got, x)
		}
	}
	for _, i := range []int{-1, len(want)} {
		if got := band.Band(s, d, i); got != 0 {
			t.Errorf("Band(%x, %d, %d): %x, not 0", s, d, i, got)
		}
	}
}

// checkPlace: that band number i by d has so many bits and begins there.
func checkPlace(t *testing.T, d, i, width, start int) {
	t.Helper()
	if got := band.Width(d, i); got != width {
		t.Errorf("Width(%d, %d): %d, not %d", d, i, got, width)
	}
	if got := band.Start(d, i); got != start {
		t.Errorf("Start(%d, %d): %d, not %d", d, i, got, start)
	}
}

// checkShared: whether a and b share a band by d, whichever comes first.
func checkShared(t *testing.T, a, b uint64, d int, want bool) {
	t.Helper()
	if got := band.Shared(a, b, d); got != want {
		t.Errorf("Shared(%x, %x, %d): %v, not %v", a, b, d, got, want)
	}
	if got := band.Shared(b, a, d); got != want {
		t.Errorf("Shared(%x, %x, %d): %v, not %v", b, a, d, got, want)
	}
}

// sharing: whether a and b share a band, told another way.
func sharing(a, b uint64, d int) bool {
	x, y := expected(a, d), expected(b, d)
	for i := range x {
		if x[i] == y[i] {
			return true
		}
	}
	return false
}

func TestCheck(t *testing.T) {
	for d := range 16 {
		if !band.Check(d) {
			t.Errorf("%d may be", d)
		}
	}
	for _, d := range sample.NoDistances() {
		if band.Check(d) {
			t.Errorf("%d may not be", d)
		}
	}
	if !band.Check(api.MaxBands-1) || band.Check(api.MaxBands) {
		t.Errorf("there are at most %d bands", api.MaxBands)
	}
}

// By each distance: how many bands have how many bits, then how many have one less.
func TestWidthsByEachDistance(t *testing.T) {
	for d, l := range [][3]int{
		{1, 64, 0}, {2, 32, 0}, {1, 22, 2}, {4, 16, 0}, {4, 13, 1}, {4, 11, 2}, {1, 10, 6}, {8, 8, 0},
		{1, 8, 8}, {4, 7, 6}, {9, 6, 2}, {4, 6, 8}, {12, 5, 1}, {8, 5, 6}, {4, 5, 11}, {16, 4, 0},
	} {
		start := 0
		for i := range d + 1 {
			width := l[1]
			if i >= l[0] {
				width--
			}
			checkPlace(t, d, i, width, start)
			start += width
		}
		if l[0]+l[2] != d+1 || start != 64 {
			t.Errorf("by %d: %d bands, %d bits", d, l[0]+l[2], start)
		}
	}
}

func TestWidthsAreThoseOfAnotherWay(t *testing.T) {
	for d := range 16 {
		start := 0
		for i, width := range widths(d) {
			checkPlace(t, d, i, width, start)
			start += width
		}
	}
}

func TestPlacesWhereWidthsChange(t *testing.T) {
	checkPlace(t, 0, 0, 64, 0)
	checkPlace(t, 2, 0, 22, 0)
	checkPlace(t, 2, 1, 21, 22)
	checkPlace(t, 2, 2, 21, 43)
	checkPlace(t, 3, 0, 16, 0)
	checkPlace(t, 3, 3, 16, 48)
	checkPlace(t, 4, 0, 13, 0)
	checkPlace(t, 4, 3, 13, 39)
	checkPlace(t, 4, 4, 12, 52)
	checkPlace(t, 10, 8, 6, 48)
	checkPlace(t, 10, 9, 5, 54)
	checkPlace(t, 10, 10, 5, 59)
	checkPlace(t, 12, 11, 5, 55)
	checkPlace(t, 12, 12, 4, 60)
	checkPlace(t, 14, 3, 5, 15)
	checkPlace(t, 14, 4, 4, 20)
	checkPlace(t, 14, 14, 4, 60)
	checkPlace(t, 15, 0, 4, 0)
	checkPlace(t, 15, 15, 4, 60)
}

func TestWhereNoBandIs(t *testing.T) {
	for d := range 16 {
		for _, i := range append(sample.NoDistances(), d+1, d+2, 2*d+1, 2*d+2, d-256, d+256, d+1<<32) {
			if 0 <= i && i <= d {
				continue
			}
			checkPlace(t, d, i, 0, 0)
			for _, s := range []uint64{0, 1, 1 << 63, all} {
				if got := band.Band(s, d, i); got != 0 {
					t.Errorf("Band(%x, %d, %d): %x", s, d, i, got)
				}
			}
		}
	}
}

func TestDistancesThatMayNotBe(t *testing.T) {
	for _, d := range sample.NoDistances() {
		for _, i := range append(sample.NoDistances(), 0, 1, 2, 3, 4, 15, d, d-1, d+1) {
			checkPlace(t, d, i, 0, 0)
			for _, s := range []uint64{0, 1, 1 << 63, all} {
				if got := band.Band(s, d, i); got != 0 {
					t.Errorf("Band(%x, %d, %d): %x", s, d, i, got)
				}
			}
		}
		for _, s := range []uint64{0, 1, 1 << 63, all} {
			checkBands(t, s, d)
			checkShared(t, s, s, d, false)
			checkShared(t, s, ^s, d, false)
			checkShared(t, s, s^1, d, false)
		}
	}
}

func TestBands(t *testing.T) {
	const s = 0x0123456789abcdef
	checkBands(t, s, 0, s)
	checkBands(t, s, 1, 0x89abcdef, 0x01234567)
	checkBands(t, s, 3, 0xcdef, 0x89ab, 0x4567, 0x0123)
	checkBands(t, s, 7, 0xef, 0xcd, 0xab, 0x89, 0x67, 0x45, 0x23, 0x01)
	checkBands(t, s, 15, 15, 14, 13, 12, 11, 10, 9, 8, 7, 6, 5, 4, 3, 2, 1, 0)
	checkBands(t, s, 16)
	checkBands(t, 1<<52|2<<39|3<<26|4<<13|5, 4, 5, 4, 3, 2, 1)
	checkBands(t, 0xfff<<52|1<<39|1<<38|1, 4, 1, 0, 1<<12, 1, 0xfff)
	checkBands(t, 3<<43|2<<22|1, 2, 1, 2, 3)
	checkBands(t, 1<<63|1<<42|1<<21, 2, 1<<21, 1<<20, 1<<20)
	checkBands(t, 9<<60|21<<55|1, 12, 1, 0, 0, 0, 0, 0, 0, 0, 0, 0, 0, 21, 9)
}

func TestBandsOf0AndOfTheGreatest(t *testing.T) {
	checkBands(t, 0, 0, 0)
	checkBands(t, all, 0, all)
	checkBands(t, 0, 3, 0, 0, 0, 0)
	checkBands(t, all, 3, 0xffff, 0xffff, 0xffff, 0xffff)
	checkBands(t, 0, 4, 0, 0, 0, 0, 0)
	checkBands(t, all, 4, 0x1fff, 0x1fff, 0x1fff, 0x1fff, 0xfff)
	checkBands(t, 0, 15, make([]uint64, 16)...)
	checkBands(t, all, 15, slices.Repeat([]uint64{15}, 16)...)
	for d := range 16 {
		var ones []uint64
		for _, w := range widths(d) {
			ones = append(ones, all>>(64-w))
		}
		checkBands(t, 0, d, make([]uint64, d+1)...)
		checkBands(t, all, d, ones...)
	}
}

// Each bit alone is in one band, at its place behind the band's begin.
func TestOneBitAlone(t *testing.T) {
	for d := range 16 {
		bit := 0
		for i, w := range widths(d) {
			for n := range w {
				want := make([]uint64, d+1)
				want[i] = 1 << n
				checkBands(t, 1<<bit, d, want...)
				if got := lone(d, i, n); got != 1<<bit {
					t.Errorf("by %d bit %d of band %d is %x, not %x", d, n, i, got, uint64(1)<<bit)
				}
				bit++
			}
		}
	}
}

func TestOneBandAlone(t *testing.T) {
	for d := range 16 {
		for i, w := range widths(d) {
			want := make([]uint64, d+1)
			want[i] = all >> (64 - w)
			checkBands(t, full(d, i), d, want...)
			checkBands(t, ^full(d, i), d, expected(^full(d, i), d)...)
			if got := band.Band(^full(d, i), d, i); got != 0 {
				t.Errorf("by %d band %d has %x from beside it", d, i, got)
			}
		}
	}
}

func TestBandsAreThoseOfAnotherWay(t *testing.T) {
	for _, s := range numbers(500) {
		for d := range 16 {
			checkBands(t, s, d, expected(s, d)...)
		}
	}
}

// P7.3.
func TestBandsAtTheirPlacesAreTheNumber(t *testing.T) {
	for _, s := range numbers(2000) {
		for d := range 16 {
			sum, one := uint64(0), uint64(0)
			for i, x := range band.Bands(s, d) {
				sum += x << band.Start(d, i) // by adding, a bit that two bands have would show
				one += band.Band(s, d, i) << band.Start(d, i)
			}
			if sum != s || one != s {
				t.Fatalf("by %d the bands of %x are put together to %x and %x", d, s, sum, one)
			}
		}
	}
}

func TestShared(t *testing.T) {
	checkShared(t, 5, 5, 0, true)
	checkShared(t, 5, 6, 0, false)
	checkShared(t, 0, 0, 0, true)
	checkShared(t, 0, 1<<63, 0, false)
	checkShared(t, 0x1111222233334444, 0x1111000000000000, 3, true)
	checkShared(t, 0x1111222233334444, 0x0000222200000000, 3, true)
	checkShared(t, 0x1111222233334444, 0x0000000033330000, 3, true)
	checkShared(t, 0x1111222233334444, 0x0000000000004444, 3, true)
	checkShared(t, 0x1111222233334444, 0x0000000000000000, 3, false)
	checkShared(t, 0x1111222233334444, 0x1112322243334445, 3, false)
	checkShared(t, 1, 2, 3, true) // bands of no bits may be the same, too
	checkShared(t, 0x1000100010001, 0x2000200020002, 3, false)
	checkShared(t, 0, all, 15, false)
	checkShared(t, 0, all-15, 15, true)
	checkShared(t, 0, all>>4, 15, true)
}

// A band is the same where both have it at one place: what the other has elsewhere is another band.
func TestBandsAtOtherPlacesAreNotShared(t *testing.T) {
	checkShared(t, 0x1111111122222222, 0x2222222211111111, 1, false)
	checkShared(t, 0x1111222233334444, 0x2222333344441111, 3, false)
	checkShared(t, 0x1111222233334444, 0x4444333322221111, 3, false)
	checkShared(t, 0x1111222233334444, 0x2222111133334444, 3, true)
	checkShared(t, 0x0123456789abcdef, 0x123456789abcdef0, 15, false)
}

func TestEachNumberSharesWithItselfAndNotWithItsOpposite(t *testing.T) {
	for _, s := range numbers(100) {
		for d := range 16 {
			checkShared(t, s, s, d, true)
			checkShared(t, s, ^s, d, false)
		}
	}
}

// Numbers that differ in d bits, one in each band but one, share that one; by one bit more, in that one, they share none.
func TestDifferingInEachBandButOne(t *testing.T) {
	for _, s := range append(sample.Mixed(10), 0, all) {
		for d := range 16 {
			for left := range d + 1 {
				for _, side := range []int{0, 1} { // the bands' lowest bits, or their highest ones
					other, last := s, uint64(0)
					for i, w := range widths(d) {
						bit := lone(d, i, side*(w-1))
						if i == left {
							last = bit
							continue
						}
						other ^= bit
					}
					if n := hamming.Distance(s, other); n != d {
						t.Fatalf("%x and %x differ in %d bits, not %d", s, other, n, d)
					}
					checkShared(t, s, other, d, true)
					checkShared(t, s, other^last, d, false)
				}
			}
		}
	}
}

// Numbers that have but one band in common, all bits of the others unlike, share it; any one bit of it breaks that.
func TestOneBandInCommon(t *testing.T) {
	for _, s := range append(sample.Mixed(3), 0, all) {
		for d := range 16 {
			for i, w := range widths(d) {
				other := s ^ ^full(d, i)
				checkShared(t, s, other, d, true)
				for n := range w {
					checkShared(t, s, other^lone(d, i, n), d, false)
				}
			}
		}
	}
}

func TestWhatIsNearShares(t *testing.T) {
	mixed := sample.Mixed(3000)
	for at, s := range mixed {
		for d := range 16 {
			other := s
			for n := range d {
				other ^= 1 << (mixed[(at+n+1)%len(mixed)] >> 58) // perhaps one bit twice: they are nearer then
			}
			if hamming.Distance(s, other) > d || !band.Shared(s, other, d) || !band.Shared(other, s, d) {
				t.Fatalf("%x and %x differ in %d bits, and share no band by %d", s, other, hamming.Distance(s, other), d)
			}
		}
	}
}

func TestSharedIsThatOfAnotherWay(t *testing.T) {
	l := append(sample.Edges(), sample.Mixed(20)...)
	for i, a := range l {
		for j, b := range l {
			d := (i + 3*j) % 16
			checkShared(t, a, b, d, sharing(a, b, d))
		}
	}
}

func TestAnswersShareNothing(t *testing.T) {
	a, b := band.Bands(0x1111222233334444, 3), band.Bands(0x1111222233334444, 3)
	a = append(a[:cap(a)], 100)
	clear(a)
	if !slices.Equal(b, []uint64{0x4444, 0x3333, 0x2222, 0x1111}) {
		t.Errorf("an answer shares memory: %x", b)
	}
	checkBands(t, 0x1111222233334444, 3, 0x4444, 0x3333, 0x2222, 0x1111)
}

func FuzzBand(f *testing.F) {
	l := sample.Edges()
	for i, a := range l {
		f.Add(a, l[len(l)-1-i], i-3, i%20)
	}
	f.Fuzz(func(t *testing.T, a, b uint64, d, i int) {
		if may := 0 <= d && d < 16; band.Check(d) != may {
			t.Fatalf("Check(%d): %v", d, !may)
		} else if !may {
			checkPlace(t, d, i, 0, 0)
			checkBands(t, a, d)
			checkShared(t, a, a, d, false)
		}
		d = (d%16 + 16) % 16
		checkBands(t, a, d, expected(a, d)...)
		checkShared(t, a, b, d, sharing(a, b, d))
		if hamming.Distance(a, b) <= d {
			checkShared(t, a, b, d, true)
		}
		if i < 0 || i > d {
			checkPlace(t, d, i, 0, 0)
		}
	})
}
