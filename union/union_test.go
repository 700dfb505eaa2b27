package union_test

import (
	"math"
	"slices"
	"testing"

	"newsreel/sample"
	"newsreel/union"
)

// greatest: of so many numbers a forest may be, and of none more.
const greatest = 1 << 20

// pair: two numbers that are joined.
type pair struct{ a, b int }

// plain: sets told another way: for each number the least one of its set.
type plain []int

// single: the numbers from 0 to below n, each a set by itself.
func single(n int) plain {
	var l plain
	for a := range n {
		l = append(l, a)
	}
	return l
}

// join: whether the sets of a and b, which are there, were two; they are one now.
func (l plain) join(a, b int) bool {
	x, y := l[a], l[b]
	for i, least := range l {
		if least == max(x, y) {
			l[i] = min(x, y)
		}
	}
	return x != y
}

// sets: the sets, by their least numbers, each gathered anew from all numbers.
func (l plain) sets() [][]int {
	var sets [][]int
	for least := range l {
		var set []int
		for a := range l {
			if l[a] == least {
				set = append(set, a)
			}
		}
		if len(set) > 0 {
			sets = append(sets, set)
		}
	}
	return sets
}

// away: numbers that aren't in a forest of n, the ends of their type among them, and some whose low bits alone would be there.
func away(n int) []int {
	return []int{math.MinInt, math.MinInt + 1, math.MinInt + n, -1<<32 - 1, -1 << 32, -1<<32 + n, -1 << 31, -n - 1, -2, -1,
		n, n + 1, 2*n + 1, 1<<31 - 1, 1 << 31, 1 << 32, 1<<32 + n, math.MaxInt - 1, math.MaxInt}
}

// made: a forest of n numbers.
func made(t *testing.T, n int) *union.Forest {
	t.Helper()
	f := union.New(n)
	checkLen(t, f, n)
	return f
}

// joined: a forest of n numbers in which these are joined, each pair of two sets.
func joined(t *testing.T, n int, pairs ...pair) *union.Forest {
	t.Helper()
	f := made(t, n)
	for _, p := range pairs {
		checkJoin(t, f, p.a, p.b, true)
	}
	return f
}

func checkLen(t *testing.T, f *union.Forest, want int) {
	t.Helper()
	if got := f.Len(); got != want {
		t.Errorf("Len(): %d, not %d", got, want)
	}
}

// checkSame: whichever of the two comes first.
func checkSame(t *testing.T, f *union.Forest, a, b int, want bool) {
	t.Helper()
	if got := f.Same(a, b); got != want {
		t.Errorf("Same(%d, %d): %v, not %v", a, b, got, want)
	}
	if got := f.Same(b, a); got != want {
		t.Errorf("Same(%d, %d): %v, not %v", b, a, got, want)
	}
}

func checkJoin(t *testing.T, f *union.Forest, a, b int, want bool) {
	t.Helper()
	if got := f.Join(a, b); got != want {
		t.Errorf("Join(%d, %d): %v, not %v", a, b, got, want)
	}
}

func checkLeast(t *testing.T, f *union.Forest, a, want int) {
	t.Helper()
	if got := f.Least(a); got != want {
		t.Errorf("Least(%d): %d, not %d", a, got, want)
	}
}

func same(a, b [][]int) bool {
	return slices.EqualFunc(a, b, slices.Equal)
}

func checkSets(t *testing.T, f *union.Forest, want ...[]int) {
	t.Helper()
	if got := f.Sets(); !same(got, want) {
		t.Errorf("Sets(): %.200v, not %.200v", got, want)
	}
}

// checkIs: that the forest tells what the list tells, twice: what asks changes nothing.
func checkIs(t *testing.T, f *union.Forest, l plain) {
	t.Helper()
	for range 2 {
		checkLen(t, f, len(l))
		for a, least := range l {
			checkLeast(t, f, a, least)
			for b := range a + 1 {
				checkSame(t, f, a, b, least == l[b])
			}
		}
		for _, a := range away(len(l)) {
			checkLeast(t, f, a, -1)
			checkSame(t, f, a, a, false)
			checkSame(t, f, a, 0, false)
			checkSame(t, f, a, len(l)-1, false)
		}
		checkSets(t, f, l.sets()...)
	}
}

func TestChapter(t *testing.T) {
	f := made(t, 5)
	checkJoin(t, f, 1, 4, true)
	checkJoin(t, f, 4, 2, true)
	checkSets(t, f, []int{0}, []int{1, 2, 4}, []int{3})
	checkIs(t, f, plain{0, 1, 1, 3, 1})
}

func TestForestsOfFew(t *testing.T) {
	checkSets(t, made(t, 0))
	checkSets(t, made(t, 1), []int{0})
	checkSets(t, made(t, 2), []int{0}, []int{1})
	for n := range 12 {
		checkIs(t, made(t, n), single(n))
	}
}

func TestForestsOfNone(t *testing.T) {
	for _, n := range []int{0, -1, -2, -5, -greatest, math.MinInt, math.MinInt + 1, math.MinInt + 5, -1 << 32, -1<<32 + 5, -1 << 31,
		greatest + 1, greatest + 2, greatest + 5, 2 * greatest, 1<<31 - 1, 1 << 31, 1 << 32, 1<<32 + 5, math.MaxInt - 1, math.MaxInt} {
		f := union.New(n)
		if f == nil {
			t.Fatalf("New(%d): nil", n)
		}
		checkIs(t, f, nil)
		for _, a := range append(away(5), 0, 1, 4, n-1, n, n+1) {
			checkJoin(t, f, a, a, false)
			checkJoin(t, f, a, 0, false)
			checkJoin(t, f, 0, a, false)
			checkLeast(t, f, a, -1)
			checkSame(t, f, a, a, false)
			checkSame(t, f, a, 0, false)
		}
		checkIs(t, f, nil)
	}
}

func TestForestsOfAsManyAsMayBe(t *testing.T) {
	for _, n := range []int{greatest - 1, greatest} {
		f := made(t, n)
		sets := f.Sets()
		if len(sets) != n {
			t.Fatalf("of %d numbers there are %d sets", n, len(sets))
		}
		for a, set := range sets {
			if len(set) != 1 || set[0] != a || f.Least(a) != a || !f.Same(a, a) {
				t.Fatalf("of %d numbers %d isn't a set by itself", n, a)
			}
		}
		checkSame(t, f, 0, n-1, false)
		checkJoin(t, f, n-1, 0, true)
		checkJoin(t, f, 0, n-1, false)
		checkSame(t, f, 0, n-1, true)
		checkLeast(t, f, n-1, 0)
		checkLeast(t, f, n-2, n-2)
		for _, a := range away(n) {
			checkLeast(t, f, a, -1)
			checkSame(t, f, a, a, false)
			checkJoin(t, f, a, 1, false)
			checkJoin(t, f, 1, a, false)
		}
		if got := f.Sets(); len(got) != n-1 || !slices.Equal(got[0], []int{0, n - 1}) {
			t.Errorf("of %d numbers, two of them joined, there are %d sets, first %v", n, len(got), got[0])
		}
	}
}

func TestTheFirstNumberAndTheLast(t *testing.T) {
	for n := 2; n < 12; n++ {
		for _, p := range []pair{{0, n - 1}, {n - 1, 0}} {
			f, l := joined(t, n, p), single(n)
			l[n-1] = 0
			checkIs(t, f, l)
		}
	}
}

func TestANumberJoinedWithItself(t *testing.T) {
	f, l := made(t, 6), single(6)
	for a := range 6 {
		checkSame(t, f, a, a, true)
		checkJoin(t, f, a, a, false)
	}
	checkIs(t, f, l)
	checkJoin(t, f, 2, 4, true)
	l.join(2, 4)
	for a := range 6 {
		checkJoin(t, f, a, a, false)
	}
	checkIs(t, f, l)
}

func TestTwoThatAreInOneSetAlready(t *testing.T) {
	for _, p := range []pair{{0, 1}, {1, 0}, {0, 4}, {4, 0}, {2, 3}, {3, 2}} {
		f, l := joined(t, 5, p), single(5)
		l.join(p.a, p.b)
		checkIs(t, f, l)
		for range 3 {
			checkJoin(t, f, p.a, p.b, false)
			checkJoin(t, f, p.b, p.a, false)
			checkIs(t, f, l)
		}
	}
	f := joined(t, 7, pair{1, 4}, pair{4, 2}, pair{6, 2}) // by way of others
	for _, a := range []int{1, 2, 4, 6} {
		for _, b := range []int{1, 2, 4, 6} {
			checkSame(t, f, a, b, true)
			checkJoin(t, f, a, b, false)
		}
		for _, b := range []int{0, 3, 5} {
			checkSame(t, f, a, b, false)
		}
	}
	checkIs(t, f, plain{0, 1, 1, 3, 1, 5, 1})
}

func TestNumbersThatAreNotThere(t *testing.T) {
	for _, n := range []int{0, 1, 2, 5, 16} {
		f, l := made(t, n), single(n)
		if n > 2 {
			checkJoin(t, f, n-1, 1, true)
			l.join(n-1, 1)
		}
		for _, a := range away(n) {
			for b := range n {
				checkJoin(t, f, a, b, false)
				checkJoin(t, f, b, a, false)
				checkSame(t, f, a, b, false)
			}
			for _, b := range away(n) { // a itself, too
				checkJoin(t, f, a, b, false)
				checkSame(t, f, a, b, false)
			}
			checkLeast(t, f, a, -1)
		}
		checkIs(t, f, l)
	}
}

// Each of two sets is put before the other, and each of their numbers before each of the other's: what they come to is the same.
func TestWhicheverStoodFirst(t *testing.T) {
	for _, one := range [][]int{{0}, {3}, {0, 3}, {3, 0}, {5, 1, 3}, {1, 3, 5}, {4, 5, 3, 1}} {
		for _, other := range [][]int{{2}, {6}, {2, 6}, {6, 2}, {7, 6, 2}} {
			for _, a := range one {
				for _, b := range other {
					for _, p := range []pair{{a, b}, {b, a}} {
						f, l := made(t, 8), single(8)
						for _, set := range [][]int{one, other} {
							for _, x := range set[1:] {
								checkJoin(t, f, set[0], x, true)
								l.join(set[0], x)
							}
						}
						checkJoin(t, f, p.a, p.b, true)
						l.join(p.a, p.b)
						checkIs(t, f, l)
					}
				}
			}
		}
	}
}

func TestSetsRise(t *testing.T) {
	checkSets(t, joined(t, 6, pair{5, 0}, pair{3, 4}, pair{2, 1}), []int{0, 5}, []int{1, 2}, []int{3, 4})
	checkSets(t, joined(t, 6, pair{1, 2}, pair{4, 3}, pair{0, 5}), []int{0, 5}, []int{1, 2}, []int{3, 4})
	checkSets(t, joined(t, 6, pair{5, 4}, pair{5, 3}, pair{5, 0}), []int{0, 3, 4, 5}, []int{1}, []int{2})
	checkSets(t, joined(t, 6, pair{0, 5}, pair{3, 0}, pair{4, 0}), []int{0, 3, 4, 5}, []int{1}, []int{2})
	checkSets(t, joined(t, 7, pair{6, 5}, pair{4, 3}, pair{6, 3}, pair{2, 1}), []int{0}, []int{1, 2}, []int{3, 4, 5, 6})
	checkSets(t, joined(t, 7, pair{6, 5}, pair{4, 3}, pair{6, 3}, pair{2, 1}, pair{1, 6}), []int{0}, []int{1, 2, 3, 4, 5, 6})
	checkSets(t, joined(t, 7, pair{6, 4}, pair{4, 2}, pair{2, 0}, pair{5, 3}, pair{3, 1}), []int{0, 2, 4, 6}, []int{1, 3, 5})
}

// Rows of joins that make one long way, if each set is simply put under the other: of as many numbers as may be, none is gone through step by step.
func TestLongWays(t *testing.T) {
	all := []int(single(greatest))
	rows := map[string]func(i int) pair{ // by i from 1 on
		"the next under the one before": func(i int) pair { return pair{i - 1, i} },
		"the one before under the next": func(i int) pair { return pair{i, i - 1} },
		"all with the first":            func(i int) pair { return pair{0, i} },
		"the first with all":            func(i int) pair { return pair{i, 0} },
		"from the last on, rising":      func(i int) pair { return pair{greatest - i - 1, greatest - i} },
		"from the last on, falling":     func(i int) pair { return pair{greatest - i, greatest - i - 1} },
		"all with the last":             func(i int) pair { return pair{greatest - 1, i - 1} },
		"the last with all":             func(i int) pair { return pair{i - 1, greatest - 1} },
	}
	for name, row := range rows {
		f := made(t, greatest)
		for i := 1; i < greatest; i++ {
			if p := row(i); !f.Join(p.a, p.b) {
				t.Fatalf("%s: Join(%d, %d): false", name, p.a, p.b)
			}
		}
		for a := range greatest {
			if f.Least(a) != 0 || !f.Same(a, greatest-1) || f.Join(a, a/2) {
				t.Fatalf("%s: %d isn't in the one set", name, a)
			}
		}
		if sets := f.Sets(); len(sets) != 1 || !slices.Equal(sets[0], all) {
			t.Errorf("%s: there isn't one set of all", name)
		}
	}
}

// Trees of the same height are put together, two by two, by whichever of their numbers: after each turn the sets are twice as great.
func TestTreesOfTheSameHeight(t *testing.T) {
	const n = 1 << 12
	for turned := range 4 {
		f := made(t, n)
		for size := 1; size < n; size *= 2 {
			for first := 0; first < n; first += 2 * size {
				a, b := first+turned%2*(size-1), first+size+turned/2*(size-1)
				checkSame(t, f, a, b, false)
				checkJoin(t, f, a, b, true)
				checkJoin(t, f, b, a, false)
			}
			for a := range n {
				checkLeast(t, f, a, a/(2*size)*2*size)
			}
			var want [][]int
			for set := range slices.Chunk(single(n), 2*size) {
				want = append(want, set)
			}
			checkSets(t, f, want...)
		}
	}
}

// P9.3: whatever the order in which they are joined, and whichever of each two comes first, the sets are the same, and as many joins made one of two.
func TestTheOrderOfJoinsIsOfNoAccount(t *testing.T) {
	const n = 60
	for _, count := range []int{1, 5, 20, 40, 60, 150} {
		l := single(n)
		var pairs []pair
		trues := 0
		for _, m := range sample.Mixed(count) {
			p := pair{int(m >> 20 % n), int(m >> 40 % n)}
			pairs = append(pairs, p)
			if l.join(p.a, p.b) {
				trues++
			}
		}
		for turn := range 40 {
			f, got := made(t, n), 0
			for i := range pairs {
				p := pairs[(i*7+turn*13)%count] // each of them once, since no count is one of sevens
				if turn%2 == 1 {
					p = pairs[count-1-(i+turn)%count]
				}
				if turn%3 == 1 || turn%3 == 2 && i%2 == 0 {
					p = pair{p.b, p.a}
				}
				if f.Join(p.a, p.b) {
					got++
				}
			}
			if got != trues {
				t.Errorf("of %d joins %d made one of two, not %d", count, got, trues)
			}
			checkIs(t, f, l)
		}
	}
}

// All orders of a few joins, each of them either way round.
func TestAllOrdersOfAFewJoins(t *testing.T) {
	pairs := []pair{{0, 3}, {3, 5}, {5, 1}, {2, 4}}
	want := plain{0, 0, 2, 0, 2, 0, 6}
	var order func(left, gone []pair)
	order = func(left, gone []pair) {
		if len(left) == 0 {
			checkIs(t, joined(t, 7, gone...), want)
			return
		}
		for i, p := range left {
			rest := slices.Delete(slices.Clone(left), i, i+1)
			order(rest, append(slices.Clone(gone), p))
			order(rest, append(slices.Clone(gone), pair{p.b, p.a}))
		}
	}
	order(pairs, nil)
}

// Step by step what the forest tells is what the list tells; one that is asked at each step, and one that is asked at the end alone, tell the same.
func TestWhatAsksChangesNothing(t *testing.T) {
	for _, n := range []int{1, 2, 3, 10, 50} {
		asked, silent, l := made(t, n), made(t, n), single(n)
		for _, m := range sample.Mixed(3 * n) {
			a, b := int(m>>20)%n, int(m>>40)%n
			want := l[a] != l[b]
			checkSame(t, asked, a, b, !want)
			checkJoin(t, asked, a, b, want)
			checkJoin(t, silent, a, b, want)
			l.join(a, b)
			checkIs(t, asked, l)
		}
		checkIs(t, silent, l)
	}
}

func TestNilForest(t *testing.T) {
	var f *union.Forest
	for range 2 {
		checkIs(t, f, nil)
		for _, a := range append(away(3), 0, 1, 2) {
			for _, b := range append(away(3), 0, 1, 2) {
				checkSame(t, f, a, b, false)
				checkJoin(t, f, a, b, false)
			}
			checkLeast(t, f, a, -1)
		}
	}
}

// spoil: writes over all that a list of lists has, its spare room too.
func spoil(sets [][]int) {
	for i := range sets {
		whole := sets[i][:cap(sets[i])]
		for k := range whole {
			whole[k] = -1
		}
	}
	whole := sets[:cap(sets)]
	for i := range whole {
		whole[i] = []int{-1}
	}
}

func TestAnswersShareNothing(t *testing.T) {
	for _, pairs := range [][]pair{nil, {{1, 4}, {4, 2}}, {{0, 8}, {8, 7}, {7, 6}, {5, 6}, {3, 1}}} {
		f, l := joined(t, 9, pairs...), single(9)
		for _, p := range pairs {
			l.join(p.a, p.b)
		}
		want := l.sets()
		kept, other := f.Sets(), f.Sets()
		spoil(other)
		if !same(kept, want) {
			t.Errorf("an answer shares memory with another one: %v", kept)
		}
		checkIs(t, f, l)
		if f.Join(0, 1) && f.Join(8, 2) && !same(kept, want) {
			t.Errorf("an answer changes with the forest: %v", kept)
		}
	}
}

func TestListsOfOneAnswerShareNothing(t *testing.T) {
	sets := joined(t, 9, pair{0, 8}, pair{8, 7}, pair{7, 6}, pair{3, 1}).Sets()
	want := [][]int{{0, 6, 7, 8}, {1, 3}, {2}, {4}, {5}}
	for i := range sets {
		for k := range want {
			if k >= i && !slices.Equal(sets[k], want[k]) {
				t.Errorf("set %d shares memory with another one: %v, not %v", k, sets[k], want[k])
			}
		}
		whole := sets[i][:cap(sets[i])]
		for k := range whole {
			whole[k] = -1 - i
		}
	}
	for i := range sets {
		for _, a := range sets[i][:cap(sets[i])] {
			if a != -1-i {
				t.Errorf("set %d shares memory with another one: %d", i, a)
			}
		}
	}
}

func TestForestsShareNothing(t *testing.T) {
	f, g, h := made(t, 4), made(t, 4), made(t, 3)
	checkJoin(t, f, 0, 3, true)
	checkJoin(t, g, 1, 2, true)
	checkIs(t, f, plain{0, 1, 2, 0})
	checkIs(t, g, plain{0, 1, 1, 3})
	checkIs(t, h, single(3))
}

// Each two bytes are a step: two numbers, perhaps not there, that are joined.
func FuzzUnion(f *testing.F) {
	f.Add(5, []byte{1, 4, 4, 2})
	f.Add(1, []byte{0, 0, 0, 1})
	f.Add(0, []byte{0, 0})
	f.Add(-1, []byte{0, 255, 255, 0})
	f.Add(40, []byte{0, 1, 2, 3, 0, 2, 4, 5, 6, 7, 4, 6, 0, 4, 7, 1, 39, 7})
	f.Fuzz(func(t *testing.T, n int, steps []byte) {
		n = min(n, 64)
		g, l := union.New(n), single(max(n, 0))
		for i := 0; i+1 < len(steps); i += 2 {
			a, b := int(int8(steps[i])), int(int8(steps[i+1]))
			there := min(a, b) >= 0 && max(a, b) < n
			checkJoin(t, g, a, b, there && l.join(a, b))
			checkSame(t, g, a, b, there)
		}
		checkIs(t, g, l)
	})
}
