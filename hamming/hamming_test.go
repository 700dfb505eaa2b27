package hamming_test

import (
	"math"
	"math/bits"
	"slices"
	"strings"
	"testing"

	"newsreel/hamming"
	"newsreel/sample"
)

const (
	all  = math.MaxUint64
	low  = uint64(1)
	high = uint64(1) << 63
)

// apart: the distance told another way: by the digits of both, place by place.
func apart(a, b uint64) int {
	x, y, n := sample.Digits(a), sample.Digits(b), 0
	for i := range x {
		if x[i] != y[i] {
			n++
		}
	}
	return n
}

// numbers: the edges, the lowest bits, the highest ones, and mixed numbers, n of them.
func numbers(n int) []uint64 {
	l := append(sample.Edges(), sample.Mixed(n)...)
	for bit := range 65 {
		l = append(l, uint64(1)<<bit-1, ^(uint64(1)<<bit - 1)) // a shift by 64 leaves 0: less one it is all
	}
	return l
}

// checkWeight: that a has so many bits, and its digits say so, too.
func checkWeight(t *testing.T, a uint64, want int) {
	t.Helper()
	if n := strings.Count(sample.Digits(a), "1"); n != want {
		t.Errorf("%x has %d digits 1, not %d", a, n, want)
	}
	if got := hamming.Weight(a); got != want {
		t.Errorf("Weight(%x): %d, not %d", a, got, want)
	}
}

// checkDistance: that a and b differ in so many bits, whichever comes first, and their digits say so, too.
func checkDistance(t *testing.T, a, b uint64, want int) {
	t.Helper()
	if n := apart(a, b); n != want {
		t.Errorf("the digits of %x and %x differ in %d places, not %d", a, b, n, want)
	}
	if got := hamming.Distance(a, b); got != want {
		t.Errorf("Distance(%x, %x): %d, not %d", a, b, got, want)
	}
	if got := hamming.Distance(b, a); got != want {
		t.Errorf("Distance(%x, %x): %d, not %d", b, a, got, want)
	}
}

// checkNear: that these places of l are near s, and l is left as it is.
func checkNear(t *testing.T, l []uint64, s uint64, d int, want ...int) {
	t.Helper()
	handed := slices.Clone(l)
	if got := hamming.Near(handed, s, d); !slices.Equal(got, want) {
		t.Errorf("Near(%.200x, %x, %d): %.200v, not %.200v", l, s, d, got, want)
	}
	if !slices.Equal(handed, l) {
		t.Errorf("%.200x is changed to %.200x", l, handed)
	}
}

// places: from 0 on, n of them.
func places(n int) []int {
	var l []int
	for i := range n {
		l = append(l, i)
	}
	return l
}

// expected: the places told another way: by the digits.
func expected(l []uint64, s uint64, d int) []int {
	return slices.DeleteFunc(places(len(l)), func(i int) bool { return apart(l[i], s) > d })
}

func TestWeight(t *testing.T) {
	checkWeight(t, 0, 0)
	checkWeight(t, low, 1)
	checkWeight(t, high, 1)
	checkWeight(t, low|high, 2)
	checkWeight(t, 6, 2)
	checkWeight(t, 7, 3)
	checkWeight(t, 0xff00, 8)
	checkWeight(t, 0x123456789abcdef0, 32)
	checkWeight(t, 0x5555555555555555, 32)
	checkWeight(t, 0xaaaaaaaaaaaaaaaa, 32)
	checkWeight(t, 0xffffffff, 32)
	checkWeight(t, 0xffffffff00000000, 32)
	checkWeight(t, all^low, 63)
	checkWeight(t, all^high, 63)
	checkWeight(t, all, 64)
}

func TestWeightOfEachBitAndOfAllButOne(t *testing.T) {
	for bit := range 64 {
		checkWeight(t, 1<<bit, 1)
		checkWeight(t, all^1<<bit, 63)
		for other := range bit {
			checkWeight(t, 1<<bit|1<<other, 2)
		}
	}
}

func TestWeightOfTheLowestBitsAndOfTheHighest(t *testing.T) {
	for n := range 65 {
		checkWeight(t, uint64(1)<<n-1, n)
		checkWeight(t, ^(uint64(1)<<n - 1), 64-n)
		checkWeight(t, bits.RotateLeft64(uint64(1)<<n-1, 29), n) // from the midst on, round the end
	}
}

func TestWeightOfEachByteAtEachPlace(t *testing.T) {
	for b := range 256 {
		for at := range 57 {
			checkWeight(t, uint64(b)<<at, bits.OnesCount8(uint8(b)))
		}
	}
}

func TestWeightsAreThoseOfAnotherWay(t *testing.T) {
	for _, a := range numbers(5000) {
		checkWeight(t, a, bits.OnesCount64(a))
	}
}

func TestDistance(t *testing.T) {
	checkDistance(t, 5, 6, 2)
	checkDistance(t, 0, 7, 3)
	checkDistance(t, 1, 2, 2)
	checkDistance(t, 7, 8, 4)
	checkDistance(t, low, high, 2)
	checkDistance(t, low|high, high, 1)
	checkDistance(t, 0, all, 64)
	checkDistance(t, low, all, 63)
	checkDistance(t, high, all, 63)
	checkDistance(t, 0x5555555555555555, 0xaaaaaaaaaaaaaaaa, 64)
	checkDistance(t, 0xffffffff, 0xffffffff00000000, 64)
	checkDistance(t, 0xffffffff, 0xffff0000, 16)
}

func TestDistanceOfNumbersThatAreTheSame(t *testing.T) {
	for _, a := range numbers(500) {
		checkDistance(t, a, a, 0)
	}
}

func TestDistanceOfNumbersThatDifferInOneBitAndInAll(t *testing.T) {
	for _, a := range numbers(100) {
		checkDistance(t, a, ^a, 64)
		for bit := range 64 {
			checkDistance(t, a, a^1<<bit, 1)
			checkDistance(t, a, ^a^1<<bit, 63)
		}
	}
}

func TestDistanceTo0IsTheWeight(t *testing.T) {
	for _, a := range numbers(500) {
		checkDistance(t, a, 0, bits.OnesCount64(a))
		checkDistance(t, a, all, 64-bits.OnesCount64(a))
	}
}

func TestDistanceBitByBit(t *testing.T) {
	for _, a := range numbers(50) {
		b := a
		for n := range 64 { // each bit once, all over the number
			b ^= 1 << (n * 37 % 64)
			checkDistance(t, a, b, n+1)
		}
	}
}

func TestTheDistanceIsAMetric(t *testing.T) {
	l := append(sample.Edges(), sample.Mixed(40)...)
	for _, a := range l {
		for _, b := range l {
			d := hamming.Distance(a, b)
			if d < 0 || d > 64 || (d == 0) != (a == b) {
				t.Fatalf("Distance(%x, %x): %d", a, b, d)
			}
			checkDistance(t, a, b, d)
			for _, c := range l {
				if by := hamming.Distance(a, c) + hamming.Distance(c, b); d > by {
					t.Fatalf("from %x to %x it is %d, by way of %x it is %d", a, b, d, c, by)
				}
			}
		}
	}
}

// What lies between two numbers (it has those bits that both have, and none that neither has) is no way round.
func TestByWayOfWhatLiesBetween(t *testing.T) {
	l := numbers(30)
	for i, a := range l {
		for j, b := range l {
			c := a ^ (a^b)&l[(i+j)%len(l)]
			if got, want := hamming.Distance(a, c)+hamming.Distance(c, b), hamming.Distance(a, b); got != want {
				t.Fatalf("from %x to %x by way of %x it is %d, not %d", a, b, c, got, want)
			}
		}
	}
}

func TestNear(t *testing.T) {
	l := []uint64{0, 7, 1, 3, all, 5, 1 << 63}
	checkNear(t, l, 1, 0, 2)
	checkNear(t, l, 1, 1, 0, 2, 3, 5)
	checkNear(t, l, 1, 2, 0, 1, 2, 3, 5, 6)
	checkNear(t, l, 1, 62, 0, 1, 2, 3, 5, 6)
	checkNear(t, l, 1, 63, 0, 1, 2, 3, 4, 5, 6)
	checkNear(t, l, 2, 0)
	checkNear(t, l, 2, 1, 0, 3)
	checkNear(t, l, all, 0, 4)
	checkNear(t, l, all, 60, 4)
	checkNear(t, l, all, 61, 1, 4)
	checkNear(t, l, 1<<63|1, 1, 2, 6)
}

func TestNearOfNone(t *testing.T) {
	few := []uint64{7, 9}
	for _, d := range []int{math.MinInt, -1, 0, 1, 63, 64, 65, math.MaxInt} {
		for _, s := range []uint64{0, low, 7, high, all} {
			for _, l := range [][]uint64{nil, {}, few[:0], make([]uint64, 0, 100)} {
				if got := hamming.Near(l, s, d); len(got) != 0 {
					t.Errorf("of none by %d: %v", d, got)
				}
			}
		}
	}
}

func TestNearOfOne(t *testing.T) {
	checkNear(t, []uint64{0}, 0, 0, 0)
	checkNear(t, []uint64{all}, all, 0, 0)
	checkNear(t, []uint64{5}, 6, 1)
	checkNear(t, []uint64{5}, 6, 2, 0)
	checkNear(t, []uint64{5}, 6, 3, 0)
	checkNear(t, []uint64{0}, all, 63)
	checkNear(t, []uint64{0}, all, 64, 0)
	checkNear(t, []uint64{low}, high, 1)
	checkNear(t, []uint64{high}, low, 2, 0)
}

func TestNearOfOneNumberOften(t *testing.T) {
	for _, n := range []int{2, 3, 100, 70000} {
		l := slices.Repeat([]uint64{5}, n)
		checkNear(t, l, 5, 0, places(n)...)
		checkNear(t, l, 6, 2, places(n)...)
		checkNear(t, l, 6, 1)
		l[n-1] = 6
		checkNear(t, l, 6, 1, n-1)
		checkNear(t, l, 5, 1, places(n-1)...)
	}
	checkNear(t, []uint64{3, 0, 3, 0, 3}, 3, 0, 0, 2, 4) // numbers that are the same are told each time
	checkNear(t, []uint64{3, 0, 3, 0, 3}, 0, 1, 1, 3)
}

// The places rise, however far what lies at them is.
func TestPlacesRise(t *testing.T) {
	var nearer, farther []uint64
	for n := range 65 {
		farther = append(farther, uint64(1)<<n-1)
		nearer = append(nearer, uint64(1)<<(64-n)-1)
	}
	for d := range 65 {
		checkNear(t, farther, 0, d, places(d+1)...)
		checkNear(t, nearer, 0, d, places(65)[64-d:]...)
		checkNear(t, slices.Concat(nearer, farther), 0, d, places(130)[64-d:66+d]...)
	}
	for _, l := range [][]uint64{numbers(300), sample.Mixed(1000)} {
		for d := range 65 {
			got := hamming.Near(l, l[len(l)/2], d)
			for i := range len(got) - 1 {
				if got[i] >= got[i+1] {
					t.Fatalf("by %d: %d comes ahead of %d", d, got[i], got[i+1])
				}
			}
		}
	}
}

// Of distances just at d, one less and one more, the last alone is too far.
func TestDistancesJustAtD(t *testing.T) {
	for _, s := range numbers(40) {
		for d := range 65 {
			var l []uint64
			for _, n := range []int{d, d + 1, d - 1, d} {
				if n < 0 || n > 64 {
					n = d
				}
				l = append(l, s^bits.RotateLeft64(uint64(1)<<n-1, 7*d))
			}
			want := []int{0, 1, 2, 3}
			if d < 64 {
				want = []int{0, 2, 3}
			}
			checkNear(t, l, s, d, want...)
		}
	}
}

func TestADBelow0(t *testing.T) {
	l := numbers(20)
	for _, d := range []int{-1, -2, -63, -64, -65, -1 << 31, -1<<32 + 3, -1 << 32, math.MinInt + 1, math.MinInt} {
		for _, s := range l {
			checkNear(t, l, s, d)
		}
	}
}

func TestADOf64AndAbove(t *testing.T) {
	l := numbers(20)
	for _, d := range []int{64, 65, 100, 128, 255, 256, 257, 1 << 16, 1<<31 - 1, 1 << 31, 1 << 32, 1<<32 + 1, math.MaxInt - 1, math.MaxInt} {
		for _, s := range l {
			checkNear(t, l, s, d, places(len(l))...)
		}
	}
}

func TestAreThoseOfAnotherWay(t *testing.T) {
	l := numbers(10)
	for _, s := range l {
		for _, d := range []int{-1, 0, 1, 2, 3, 8, 31, 32, 33, 62, 63} {
			checkNear(t, l, s, d, expected(l, s, d)...)
		}
	}
}

func TestByMoreThereAreNoFewer(t *testing.T) {
	l := append(sample.Edges(), sample.Mixed(40)...)
	for _, s := range l {
		var fewer []int
		for d := -1; d <= 64; d++ {
			got := hamming.Near(l, s, d)
			for _, place := range fewer {
				if !slices.Contains(got, place) {
					t.Fatalf("%x by %d: %d is gone", s, d, place)
				}
			}
			fewer = got
		}
	}
}

func TestSpareRoomIsLeftAlone(t *testing.T) {
	l := []uint64{1, 3, 1, 1, 1}
	if got := hamming.Near(l[:2], 1, 64); !slices.Equal(got, []int{0, 1}) {
		t.Errorf("%v", got)
	}
	if !slices.Equal(l, []uint64{1, 3, 1, 1, 1}) {
		t.Errorf("%x", l)
	}
}

func TestAnswersShareNothing(t *testing.T) {
	l := []uint64{1, 3, 0, 7}
	a, b := hamming.Near(l, 1, 1), hamming.Near(l, 1, 1)
	a = append(a[:cap(a)], 100)
	clear(a)
	clear(l)
	if !slices.Equal(b, []int{0, 1, 2}) {
		t.Errorf("an answer shares memory: %v", b)
	}
	checkNear(t, l, 1, 0)
	checkNear(t, l, 1, 1, 0, 1, 2, 3)
	checkNear(t, []uint64{1, 3, 0, 7}, 1, 1, 0, 1, 2)
}

func FuzzHamming(f *testing.F) {
	l := sample.Edges()
	for i, a := range l {
		f.Add(a, l[len(l)-1-i], l[i/2], i-3)
	}
	f.Fuzz(func(t *testing.T, a, b, c uint64, d int) {
		checkWeight(t, a, bits.OnesCount64(a))
		checkDistance(t, a, b, apart(a, b))
		if hamming.Distance(a, b) > hamming.Distance(a, c)+hamming.Distance(c, b) {
			t.Errorf("by way of %x it is nearer from %x to %x", c, a, b)
		}
		list := []uint64{b, c, b, a, b ^ c}
		checkNear(t, list, a, d, expected(list, a, d)...)
		checkNear(t, list, a, d%65, expected(list, a, d%65)...)
	})
}
