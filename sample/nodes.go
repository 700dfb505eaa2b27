package sample

import (
	"iter"
	"math"
	"math/bits"
	"slices"

	"newsreel/api"
)

// Element: an element's node.
func Element(up int, name string, attrs ...api.Attr) api.Node {
	return api.Node{Name: name, Attrs: attrs, Up: up}
}

// Words: a text's node.
func Words(up int, s string) api.Node { return api.Node{Text: s, Up: up} }

// SameNodes: whether a and b are alike; a list of no attributes is like another one.
func SameNodes(a, b []api.Node) bool {
	return slices.EqualFunc(a, b, func(x, y api.Node) bool {
		return x.Name == y.Name && x.Text == y.Text && x.Up == y.Up && slices.Equal(x.Attrs, y.Attrs)
	})
}

// CopyNodes: a copy of l, its spare room and its attributes' among it, to hold l against later.
func CopyNodes(l []api.Node) []api.Node {
	c := slices.Clone(l[:cap(l)])
	for i := range c {
		c[i].Attrs = slices.Clone(c[i].Attrs[:cap(c[i].Attrs)])
	}
	return c
}

// SpoilNodes writes over all that nodes have, their spare room too.
func SpoilNodes(l []api.Node) {
	whole := l[:cap(l)]
	for i := range whole {
		attrs := whole[i].Attrs[:cap(whole[i].Attrs)]
		for k := range attrs {
			attrs[k] = Attr("spoilt", "spoilt")
		}
		whole[i] = Words(-7, "spoilt")
	}
}

// RoomyNodes: a copy of l that has spare room, and whose attributes have some; nodes without any get one.
func RoomyNodes(l []api.Node) []api.Node {
	c := Roomy(l, Words(0, "spare"))
	for i := range c {
		attrs := c[i].Attrs
		if len(attrs) == 0 {
			attrs = []api.Attr{Attr("a", "b")}
		}
		c[i].Attrs = Roomy(attrs, Attr("spare", "c"))
	}
	return c
}

// Tangle: n of the parts behind the head, by mixed numbers. A part's first node hangs on the head's last one, if its name is kid, else mostly on the last of those kids; its others have places of the part as parents. But of 64 nodes so many as loose says hang anywhere, and sometimes so does the list's first one.
func Tangle(head []api.Node, parts [][]api.Node, kid string, n int, mixed []uint64, loose uint64) []api.Node {
	l := slices.Clone(head)
	last := len(head) - 1
	for i := range n {
		m := mixed[i%len(mixed)]
		begin := len(l)
		for k, x := range parts[m>>8%uint64(len(parts))] {
			x.Up += begin
			switch {
			case k == 0 && x.Name == kid:
				x.Up, last = len(head)-1, begin
			case k == 0 && m>>24%4 == 0:
				x.Up = begin - 1
			case k == 0:
				x.Up = last
			}
			if m = bits.RotateLeft64(m, 7); m>>32%64 < loose {
				x.Up = int(m>>40%uint64(len(l)+9)) - 1
			}
			l = append(l, x)
		}
	}
	if m := mixed[0] >> 7; m%64 < loose {
		l[0].Up = int(m >> 8 % uint64(len(l)+1))
	}
	return l
}

// Roomy: a copy of l that has spare room, all of it filled with x.
func Roomy[T any](l []T, x T) []T {
	whole := append(slices.Clone(l), x, x, x)
	return whole[:len(l)]
}

// Away: numbers that are no places of n nodes, the ends of their type among them, and some whose low bits alone would be one.
func Away(n int) []int {
	return []int{math.MinInt, math.MinInt + 1, math.MinInt + n, -1 << 32, -1<<32 + 1, -1 << 31, -n - 1, -2, -1,
		n, n + 1, 2*n + 1, 1<<31 - 1, 1 << 31, 1 << 32, 1<<32 + 1, math.MaxInt - 1, math.MaxInt}
}

// Lists: each list of up to so many of the parts, in memory that the next one is written over.
func Lists[T any](parts []T, most int) iter.Seq[[]T] {
	return func(yield func([]T) bool) {
		longer(make([]T, 0, most), parts, most, yield)
	}
}

// longer gives l, and each list that begins with it, until one isn't wanted any more.
func longer[T any](l, parts []T, most int, yield func([]T) bool) bool {
	if !yield(l) {
		return false
	}
	if len(l) == most {
		return true
	}
	for _, x := range parts {
		if !longer(append(l, x), parts, most, yield) {
			return false
		}
	}
	return true
}
