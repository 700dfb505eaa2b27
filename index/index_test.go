package index_test

import (
	"errors"
	"math"
	"slices"
	"testing"

	"newsreel/api"
	"newsreel/band"
	"newsreel/hamming"
	"newsreel/index"
	"newsreel/sample"
)

const all = math.MaxUint64

// entry: a number by its name.
type entry struct {
	id int
	s  uint64
}

// plain: what an index holds, told another way: as a list, in the order in which they came.
type plain []entry

// at: the place of the name id, or -1.
func (l plain) at(id int) int {
	return slices.IndexFunc(l, func(e entry) bool { return e.id == id })
}

// names: the names, rising, of those that fit.
func (l plain) names(fits func(uint64) bool) []int {
	var names []int
	for _, e := range l {
		if fits(e.s) {
			names = append(names, e.id)
		}
	}
	slices.Sort(names)
	return names
}

// sharing: the names, rising, of those that share a band with s by d.
func (l plain) sharing(s uint64, d int) []int {
	return l.names(func(x uint64) bool { return band.Shared(x, s, d) })
}

// near: the names, rising, of those whose distance to s is at most d.
func (l plain) near(s uint64, d int) []int {
	return l.names(func(x uint64) bool { return hamming.Distance(x, s) <= d })
}

// made: an index by d without numbers.
func made(t *testing.T, d int) *index.Index {
	t.Helper()
	x, err := index.New(d)
	if err != nil || x == nil {
		t.Fatalf("New(%d): %v, %v", d, x, err)
	}
	return x
}

// filled: an index by d into which these came, one by one.
func filled(t *testing.T, d int, l ...entry) *index.Index {
	t.Helper()
	x := made(t, d)
	for _, e := range l {
		checkAdd(t, x, e.id, e.s, true)
	}
	return x
}

func checkAdd(t *testing.T, x *index.Index, id int, s uint64, want bool) {
	t.Helper()
	if got := x.Add(id, s); got != want {
		t.Errorf("Add(%d, %x): %v, not %v", id, s, got, want)
	}
}

func checkDrop(t *testing.T, x *index.Index, id int, want bool) {
	t.Helper()
	if got := x.Drop(id); got != want {
		t.Errorf("Drop(%d): %v, not %v", id, got, want)
	}
}

// checkGet: that the name id is there, with s.
func checkGet(t *testing.T, x *index.Index, id int, s uint64) {
	t.Helper()
	if got, there := x.Get(id); got != s || !there {
		t.Errorf("Get(%d): %x, %v, not %x, true", id, got, there, s)
	}
}

// checkNone: that the name id isn't there.
func checkNone(t *testing.T, x *index.Index, id int) {
	t.Helper()
	if got, there := x.Get(id); got != 0 || there {
		t.Errorf("Get(%d): %x, %v, not 0, false", id, got, there)
	}
}

func checkLen(t *testing.T, x *index.Index, want int) {
	t.Helper()
	if got := x.Len(); got != want {
		t.Errorf("Len(): %d, not %d", got, want)
	}
}

func checkSharing(t *testing.T, x *index.Index, s uint64, want ...int) {
	t.Helper()
	if got := x.Sharing(s); !slices.Equal(got, want) {
		t.Errorf("Sharing(%x): %.200v, not %.200v", s, got, want)
	}
}

func checkNear(t *testing.T, x *index.Index, s uint64, want ...int) {
	t.Helper()
	if got := x.Near(s); !slices.Equal(got, want) {
		t.Errorf("Near(%x): %.200v, not %.200v", s, got, want)
	}
}

// checkIs: that the index by d holds just these, and tells what the list tells, twice: what asks changes nothing.
func checkIs(t *testing.T, x *index.Index, d int, l plain, asked ...uint64) {
	t.Helper()
	for range 2 {
		checkLen(t, x, len(l))
		for _, e := range l {
			checkGet(t, x, e.id, e.s)
			if l.at(e.id+1) < 0 {
				checkNone(t, x, e.id+1)
			}
		}
		for _, s := range asked {
			checkSharing(t, x, s, l.sharing(s, d)...)
			checkNear(t, x, s, l.near(s, d)...)
		}
	}
}

// spread: a number of n bits, at places that lie about as far from one another as n bits can, from bit first on.
func spread(n, first int) uint64 {
	s := uint64(0)
	for i := range n {
		s |= 1 << ((first + i*64/n) % 64)
	}
	return s
}

// lowest: a number of n bits, without any between them, from bit first on, and on at bit 0 behind bit 63.
func lowest(n, first int) uint64 {
	s := uint64(0)
	for i := range n {
		s |= 1 << ((first + i) % 64)
	}
	return s
}

func TestEachDistanceThatMayBe(t *testing.T) {
	for d := range 16 {
		x := made(t, d)
		checkIs(t, x, d, nil, 0, 1, all)
		checkAdd(t, x, 3, 5, true)
		checkIs(t, x, d, plain{{3, 5}}, 0, 5, 7, all)
	}
}

func TestDistancesThatMayNotBe(t *testing.T) {
	for _, d := range sample.NoDistances() {
		x, err := index.New(d)
		if x != nil || err == nil {
			t.Fatalf("New(%d): %v, %v", d, x, err)
		}
		for c := api.OK; c <= api.ErrBroken+1; c++ {
			if is := errors.Is(err, c); is != (c == api.ErrArg) {
				t.Errorf("New(%d): whether its error is %v: %v", d, c, is)
			}
		}
		var code api.Code
		if !errors.As(err, &code) || code != api.ErrArg {
			t.Errorf("New(%d): the Code that is found: %v", d, code)
		}
		checkAdd(t, x, 1, 1, false)
		checkLen(t, x, 0)
	}
}

func TestChapter(t *testing.T) {
	x := filled(t, 3, entry{7, 0}, entry{9, 7})
	checkNear(t, x, 1, 7, 9)
	checkSharing(t, x, 1, 7, 9)
	checkNear(t, x, 8, 7)
	checkSharing(t, x, 8, 7, 9)
}

func TestWithoutNumbers(t *testing.T) {
	for _, d := range []int{0, 3, 4, 15} {
		x := made(t, d)
		for _, id := range []int{math.MinInt, -1, 0, 1, math.MaxInt} {
			checkNone(t, x, id)
			checkDrop(t, x, id, false)
		}
		checkIs(t, x, d, nil, sample.Edges()...)
	}
}

func TestWithOne(t *testing.T) {
	for _, d := range []int{0, 3, 4, 15} {
		for _, s := range append(sample.Edges(), sample.Mixed(20)...) {
			x := filled(t, d, entry{-5, s})
			checkIs(t, x, d, plain{{-5, s}}, append(sample.Edges(), s, ^s)...)
			checkNear(t, x, s, -5)
			checkSharing(t, x, s, -5)
			checkNear(t, x, ^s)
			checkSharing(t, x, ^s)
		}
	}
}

func TestWithMany(t *testing.T) {
	for _, d := range []int{0, 1, 2, 3, 4, 7, 14, 15} {
		var l plain
		for i, s := range append(sample.Edges(), sample.Mixed(600)...) {
			l = append(l, entry{i*7919%100003 - 50000, s})
		}
		asked := append(sample.Edges()[:20], sample.Mixed(20)...)
		for i, s := range sample.Mixed(40) {
			asked = append(asked, s^spread(1+i%17, i))
		}
		checkIs(t, filled(t, d, l...), d, l, asked...)
	}
}

func TestNumbersOf0AndTheGreatest(t *testing.T) {
	for d := range 16 {
		x := filled(t, d, entry{1, 0}, entry{2, all})
		checkGet(t, x, 1, 0)
		checkGet(t, x, 2, all)
		checkNear(t, x, 0, 1)
		checkNear(t, x, all, 2)
		checkSharing(t, x, 0, 1)
		checkSharing(t, x, all, 2)
		checkAdd(t, x, 1, all, false)
		checkDrop(t, x, 1, true)
		checkNone(t, x, 1)
		checkIs(t, x, d, plain{{2, all}}, 0, 1, all, all-1)
	}
}

func TestNamesAtTheEndsOfTheirType(t *testing.T) {
	ids := []int{0, math.MaxInt, -1, math.MinInt, 1, math.MaxInt - 1, math.MinInt + 1, 1 << 32, -1 << 32, 1 << 31, -1 << 31}
	rising := slices.Sorted(slices.Values(ids))
	for d := range 16 {
		x := made(t, d)
		for _, id := range ids {
			checkAdd(t, x, id, 6, true)
		}
		checkNear(t, x, 6, rising...)
		checkSharing(t, x, 6, rising...)
		for _, id := range ids {
			checkGet(t, x, id, 6)
			checkAdd(t, x, id, 6, false)
			checkNone(t, x, id^2)
		}
		for i, id := range rising {
			checkDrop(t, x, id, true)
			checkNone(t, x, id)
			checkNear(t, x, 6, rising[i+1:]...)
			checkSharing(t, x, 6, rising[i+1:]...)
		}
		checkLen(t, x, 0)
	}
}

func TestTwoNamesOfOneNumber(t *testing.T) {
	for d := range 16 {
		x := filled(t, d, entry{4, 9}, entry{-4, 9})
		checkIs(t, x, d, plain{{4, 9}, {-4, 9}}, 9, 8, 0, all)
		checkNear(t, x, 9, -4, 4)
		checkSharing(t, x, 9, -4, 4)
		checkDrop(t, x, 4, true)
		checkNear(t, x, 9, -4)
		checkSharing(t, x, 9, -4)
		checkIs(t, x, d, plain{{-4, 9}}, 9, 8, 0, all)
	}
}

func TestANameThatIsThereAlready(t *testing.T) {
	for d := range 16 {
		x := filled(t, d, entry{1, 5})
		for _, s := range []uint64{5, 0, all, ^uint64(5), 4} {
			checkAdd(t, x, 1, s, false)
			checkIs(t, x, d, plain{{1, 5}}, 5, s, ^s)
		}
		checkNear(t, x, 5, 1)
		checkNear(t, x, all)
		checkSharing(t, x, ^uint64(5))
		checkDrop(t, x, 1, true)
		checkIs(t, x, d, nil, 5, 0, all, ^uint64(5)) // nothing is left of the numbers that weren't taken
	}
}

func TestANameThatIsNotThere(t *testing.T) {
	for d := range 16 {
		x := filled(t, d, entry{1, 5}, entry{3, 5})
		for _, id := range []int{0, 2, 4, 5, -1, -3, math.MinInt, math.MaxInt, 1 + 1<<32} {
			checkNone(t, x, id)
			checkDrop(t, x, id, false)
			checkIs(t, x, d, plain{{1, 5}, {3, 5}}, 5, 0, all)
		}
	}
}

func TestANameThatWentAndCameAgain(t *testing.T) {
	for d := range 16 {
		x := filled(t, d, entry{1, 5}, entry{2, 5}, entry{3, all})
		checkDrop(t, x, 1, true)
		checkDrop(t, x, 1, false)
		checkNone(t, x, 1)
		checkIs(t, x, d, plain{{2, 5}, {3, all}}, 5, 0, all)
		checkAdd(t, x, 1, 5, true) // with the number that it had
		checkIs(t, x, d, plain{{2, 5}, {3, all}, {1, 5}}, 5, 0, all)
		checkDrop(t, x, 1, true)
		checkAdd(t, x, 1, ^uint64(5), true) // with another one
		checkIs(t, x, d, plain{{2, 5}, {3, all}, {1, ^uint64(5)}}, 5, 0, all, ^uint64(5))
		checkSharing(t, x, 5, plain{{2, 5}, {3, all}}.sharing(5, d)...)
		checkNear(t, x, ^uint64(5), plain{{1, ^uint64(5)}, {3, all}}.near(^uint64(5), d)...)
	}
}

// Of numbers that differ in one bit less than d, in d, and in one more, the last alone is too far, wherever these bits are.
func TestDistancesJustAtD(t *testing.T) {
	for d := range 16 {
		for _, s := range append(sample.Mixed(5), 0, all) {
			for first := range 64 {
				l := plain{{1, s ^ lowest(d, first)}, {2, s ^ lowest(d+1, first)}, {3, s ^ spread(d+1, first)}, {4, s ^ spread(d, first)}, {6, s}}
				near := []int{1, 4, 6}
				if d > 0 {
					l = append(l, entry{5, s ^ spread(d-1, first)})
					near = []int{1, 4, 5, 6}
				}
				x := filled(t, d, l...)
				checkNear(t, x, s, near...)
				checkSharing(t, x, s, l.sharing(s, d)...)
			}
		}
	}
}

func TestDistancesJustAtDByHand(t *testing.T) {
	x := filled(t, 0, entry{1, 8}, entry{2, 9}, entry{3, 8})
	checkNear(t, x, 8, 1, 3)
	checkSharing(t, x, 8, 1, 3)
	checkNear(t, x, 10)
	checkSharing(t, x, 10)

	x = filled(t, 3, entry{1, 7}, entry{2, 15}, entry{3, 0x0000000100010001}, entry{4, 0x0001000100010001})
	checkNear(t, x, 0, 1, 3)
	checkSharing(t, x, 0, 1, 2, 3) // 4 differs in each of the four bands

	x = filled(t, 4, entry{1, 15}, entry{2, 31}, entry{3, 1<<52 | 1<<39 | 1<<26 | 1<<13}, entry{4, 1<<52 | 1<<39 | 1<<26 | 1<<13 | 1})
	checkNear(t, x, 0, 1, 3)
	checkSharing(t, x, 0, 1, 2, 3)

	x = filled(t, 15, entry{1, 0x7fff}, entry{2, 0xffff}, entry{3, 0x1111111111111110}, entry{4, 0x1111111111111111})
	checkNear(t, x, 0, 1, 3)
	checkSharing(t, x, 0, 1, 2, 3)
}

// One band in common, and all bits of the others unlike: they share it, and are far from one another.
func TestSharingABandAndYetTooFar(t *testing.T) {
	for d := range 16 {
		for _, s := range append(sample.Mixed(5), 0, all) {
			x, names := made(t, d), []int(nil)
			for i := range d + 1 {
				same := (uint64(1)<<band.Width(d, i) - 1) << band.Start(d, i)
				checkAdd(t, x, d-i, s^^same, true)
				names = append(names, i)
			}
			checkSharing(t, x, s, names...)
			if d > 0 {
				checkNear(t, x, s)
			} else {
				checkNear(t, x, s, 0) // its one band is all of the number
			}
			checkAdd(t, x, 100, ^s, true) // which shares none
			checkSharing(t, x, s, names...)
		}
	}
}

// A name whose number shares all bands is told once, not once a band.
func TestEachNameOnce(t *testing.T) {
	for d := range 16 {
		x := filled(t, d, entry{2, 5}, entry{1, 5}, entry{3, 5 ^ 1<<63})
		checkIs(t, x, d, plain{{2, 5}, {1, 5}, {3, 5 ^ 1<<63}}, 5, 5^1<<63)
	}
	checkSharing(t, filled(t, 15, entry{2, 5}, entry{1, 5}), 5, 1, 2)
}

// A band at one place isn't that at another one, though it be the same bits.
func TestBandsAtOtherPlacesAreNotShared(t *testing.T) {
	x := filled(t, 3, entry{1, 0x1111222233334444}, entry{2, 0x2222333344441111}, entry{3, 0x4444333322221111})
	checkSharing(t, x, 0x1111222233334444, 1)
	checkSharing(t, x, 0x9999999999991111, 2, 3)
	checkSharing(t, x, 0x9999333399999999, 2, 3)
	checkSharing(t, x, 0x9999222299999999, 1)
	checkSharing(t, x, 0x9999999999992222)
}

func TestNamesRiseInWhateverOrderTheyCame(t *testing.T) {
	var rising []int
	for i := range 101 {
		rising = append(rising, 3*i-150)
	}
	falling := slices.Clone(rising)
	slices.Reverse(falling)
	var mixed []int
	for i := range rising {
		mixed = append(mixed, rising[i*37%101])
	}
	for _, d := range []int{0, 3, 4, 15} {
		for _, order := range [][]int{rising, falling, mixed} {
			var l plain
			for _, id := range order {
				l = append(l, entry{id, spread((id+150)/3%(d+3), id+150)})
			}
			x := filled(t, d, l...)
			checkIs(t, x, d, l, 0, 1, all, spread(3, 0))
			one := made(t, d)
			for _, id := range order {
				checkAdd(t, one, id, all, true)
			}
			checkNear(t, one, all, rising...)
			checkSharing(t, one, all, rising...)
		}
	}
}

// P8.3: step by step what is told is what the list tells, and at last what an index tells into which just those came that are left.
func TestWhatCameAndWentIsOfNoAccount(t *testing.T) {
	for _, d := range []int{0, 1, 3, 4, 9, 15} {
		x, l := made(t, d), plain(nil)
		mixed := sample.Mixed(1500)
		for i, m := range mixed {
			id, s := int(m>>40%40)-20, spread(int(m>>20%6), int(m>>50))
			if m>>8%5 == 0 {
				s = mixed[i/9]
			}
			place := l.at(id)
			if m>>30%3 == 0 {
				checkDrop(t, x, id, place >= 0)
				if place >= 0 {
					l = slices.Delete(l, place, place+1)
				}
			} else {
				checkAdd(t, x, id, s, place < 0)
				if place < 0 {
					l = append(l, entry{id, s})
				}
			}
			checkLen(t, x, len(l))
			checkSharing(t, x, s, l.sharing(s, d)...)
			checkNear(t, x, s, l.near(s, d)...)
		}
		asked := append(sample.Edges(), mixed[:50]...)
		checkIs(t, x, d, l, asked...)
		slices.Reverse(l)
		fresh := filled(t, d, l...)
		for _, s := range asked {
			checkSharing(t, fresh, s, x.Sharing(s)...)
			checkNear(t, fresh, s, x.Near(s)...)
		}
	}
}

func TestAllWentAndCameAgain(t *testing.T) {
	for _, d := range []int{0, 3, 4, 15} {
		x := made(t, d)
		for turn := range 3 {
			var l plain
			for i, s := range sample.Mixed(100) {
				l = append(l, entry{i, s ^ uint64(turn)})
				checkAdd(t, x, i, s^uint64(turn), true)
			}
			checkIs(t, x, d, l, append(sample.Mixed(10), 0, all)...)
			for i := range 100 {
				checkDrop(t, x, i*37%100, true)
			}
			checkIs(t, x, d, nil, append(sample.Mixed(100), 0, all)...)
		}
	}
}

func TestWhatIsNearShares(t *testing.T) {
	for d := range 16 {
		x := made(t, d)
		for i, s := range sample.Mixed(200) {
			checkAdd(t, x, i, s, true)
		}
		for i, s := range sample.Mixed(200) {
			asked := s ^ spread(d, i) // d bits away from name i
			near, sharing := x.Near(asked), x.Sharing(asked)
			if !slices.Contains(near, i) {
				t.Errorf("by %d %d isn't near", d, i)
			}
			for _, id := range near {
				if !slices.Contains(sharing, id) {
					t.Errorf("by %d %d is near and shares no band", d, id)
				}
			}
		}
	}
}

func TestNilIndex(t *testing.T) {
	var x *index.Index
	for _, id := range []int{math.MinInt, -1, 0, 1, math.MaxInt} {
		for _, s := range []uint64{0, 1, all} {
			checkAdd(t, x, id, s, false)
			checkNone(t, x, id)
			checkDrop(t, x, id, false)
			checkSharing(t, x, s)
			checkNear(t, x, s)
			checkLen(t, x, 0)
		}
	}
}

func TestAnswersShareNothing(t *testing.T) {
	for _, d := range []int{0, 3, 4, 15} {
		x := made(t, d)
		var want []int
		for id := range 9 {
			checkAdd(t, x, id, 5, true)
			want = append(want, id)
		}
		for _, ask := range []func(uint64) []int{x.Near, x.Sharing} {
			a, b := ask(5), ask(5)
			a = append(a[:cap(a)], 100)
			for i := range a {
				a[i] = -1
			}
			if !slices.Equal(b, want) {
				t.Errorf("an answer shares memory with another one: %v", b)
			}
			checkNear(t, x, 5, want...)
			checkSharing(t, x, 5, want...)
		}
		told := x.Near(5)
		checkDrop(t, x, 0, true)
		checkAdd(t, x, -1, 5, true)
		if !slices.Equal(told, want) {
			t.Errorf("an answer changes with the index: %v", told)
		}
	}
}

func TestIndexesShareNothing(t *testing.T) {
	x, y, z := made(t, 3), made(t, 3), made(t, 15)
	checkAdd(t, x, 1, 5, true)
	checkAdd(t, y, 2, 5, true)
	checkAdd(t, z, 1, 5, true)
	checkDrop(t, z, 1, true)
	checkIs(t, x, 3, plain{{1, 5}}, 5, 0)
	checkIs(t, y, 3, plain{{2, 5}}, 5, 0)
	checkIs(t, z, 15, nil, 5, 0)
}

// Each two bytes are a step: what is done, by which name, and which number.
func FuzzIndex(f *testing.F) {
	f.Add(3, []byte{1, 2, 3, 4, 129, 2, 130, 5, 1, 6})
	f.Add(0, []byte{10, 0, 11, 0, 12, 1, 138, 0, 10, 1})
	f.Add(15, []byte{255, 255, 127, 255, 127, 0})
	f.Add(-1, []byte{1, 1})
	f.Add(16, []byte{1, 1})
	f.Fuzz(func(t *testing.T, d int, steps []byte) {
		x, err := index.New(d)
		if !band.Check(d) {
			if x != nil || !errors.Is(err, api.ErrArg) {
				t.Fatalf("New(%d): %v, %v", d, x, err)
			}
			return
		}
		var l plain
		for i := 0; i+1 < len(steps); i += 2 {
			id, s := int(int8(steps[i]<<1)), spread(int(steps[i+1]%20), int(steps[i+1]/20))
			place := l.at(id)
			if steps[i] < 128 {
				checkAdd(t, x, id, s, place < 0)
				if place < 0 {
					l = append(l, entry{id, s})
				}
			} else {
				checkDrop(t, x, id, place >= 0)
				if place >= 0 {
					l = slices.Delete(l, place, place+1)
				}
			}
			checkSharing(t, x, s, l.sharing(s, d)...)
			checkNear(t, x, s, l.near(s, d)...)
		}
		checkIs(t, x, d, l, 0, 1, all)
	})
}
