package union

import (
	"math/bits"
	"testing"
)

// way: the root of the tree in which a stands, and how many steps lead to it; they are as many as before.
func (f *Forest) way(a int) (int, int) {
	steps := 0
	for ; f.nodes[a].up != a; a = f.nodes[a].up {
		steps++
	}
	return a, steps
}

// steps: how many steps lead from a to its root.
func (f *Forest) steps(a int) int {
	_, steps := f.way(a)
	return steps
}

// longest: how many steps the longest way of the forest has.
func (f *Forest) longest() int {
	n := 0
	for a := range f.nodes {
		n = max(n, f.steps(a))
	}
	return n
}

// pairUp: puts the numbers below n, which is a power of two, in one set, trees of the same height together by their roots, so that no way is made short.
func (f *Forest) pairUp(n int) {
	for size := 1; size < n; size *= 2 {
		for first := 0; first < n; first += 2 * size {
			a, _ := f.way(first)
			b, _ := f.way(first + size)
			f.Join(a, b)
		}
	}
}

// paired: a forest of n numbers, which is a power of two, in one set of long ways.
func paired(n int) *Forest {
	f := New(n)
	f.pairUp(n)
	return f
}

// The lower tree goes under the higher one, whichever is named first: a tree of 2^h numbers has no way of more than h steps, if no way is made short at all.
func TestNoWayIsLong(t *testing.T) {
	for h := range 15 {
		if f := paired(1 << h); f.longest() > h {
			t.Errorf("of 2^%d numbers, put together two by two, the longest way has %d steps", h, f.longest())
		}
	}
	rows := []func(f *Forest, a int){
		func(f *Forest, a int) { f.Join(a-1, a) },
		func(f *Forest, a int) { f.Join(a, a-1) },
		func(f *Forest, a int) { f.Join(0, a) },
		func(f *Forest, a int) { f.Join(a, 0) },
	}
	for i, row := range rows {
		f := New(1000)
		for a := 1; a < f.Len(); a++ {
			row(f, a)
			if most := bits.Len(uint(a+1)) - 1; f.steps(a) > most || f.steps(0) > most {
				t.Fatalf("row %d: of %d numbers, %d has %d steps to go", i, a+1, a, f.steps(a))
			}
		}
		if f.longest() != 1 {
			t.Errorf("row %d: numbers put to one greater tree each have %d steps to go, not 1", i, f.longest())
		}
	}
}

// Higher is the tree with the longer ways, though the other one have more numbers, and be put together by more joins.
func TestTheLowerTreeGoesUnderTheHigherOne(t *testing.T) {
	for _, turned := range []bool{false, true} {
		f := New(38)
		for a := 9; a < f.Len(); a++ {
			f.Join(8, a) // one step from each number to the root
		}
		f.pairUp(8)
		if f.longest() != 3 {
			t.Fatalf("of 8 numbers, put together two by two, the longest way has %d steps, not 3", f.longest())
		}
		high, _ := f.way(0)
		low, _ := f.way(8)
		if turned {
			f.Join(low, high)
		} else {
			f.Join(high, low)
		}
		if root, _ := f.way(8); root != high || f.longest() != 3 {
			t.Errorf("turned %v: the root is %d, not %d, and the longest way has %d steps, not 3", turned, root, high, f.longest())
		}
	}
}

// Each call that goes a way makes it short.
func TestWaysAreMadeShort(t *testing.T) {
	asks := []func(f *Forest, a int){
		func(f *Forest, a int) { f.Least(a) },
		func(f *Forest, a int) { f.Same(a, 0) },
		func(f *Forest, a int) { f.Same(0, a) },
		func(f *Forest, a int) { f.Join(a, 0) },
		func(f *Forest, a int) { f.Join(0, a) },
		func(f *Forest, a int) { f.Sets() },
	}
	for i, ask := range asks {
		f := paired(1 << 10)
		for a := range f.Len() {
			before := f.steps(a)
			ask(f, a)
			if after := f.steps(a); after > (before+1)/2 {
				t.Errorf("call %d: %d has %d steps to go, ahead of it %d", i, a, after, before)
			}
		}
	}
}
