package sample

import (
	"iter"
	"math"
	"slices"

	"newsreel/api"
)

// Element: an element's node.
func Element(up int, name string, attrs ...api.Attr) api.Node {
	return api.Node{Name: name, Attrs: attrs, Up: up}
}

// Words: a text's node.
func Words(up int, s string) api.Node { return api.Node{Text: s, Up: up} }

// SameNodes: whether a and b are alike; a list of no attributes is like another one.
func SameNodes(a, b []api.Node) bool {
	return slices.EqualFunc(a, b, func(x, y api.Node) bool {
		return x.Name == y.Name && x.Text == y.Text && x.Up == y.Up && slices.Equal(x.Attrs, y.Attrs)
	})
}

// CopyNodes: a copy of l, its spare room and its attributes' among it, to hold l against later.
func CopyNodes(l []api.Node) []api.Node {
	c := slices.Clone(l[:cap(l)])
	for i := range c {
		c[i].Attrs = slices.Clone(c[i].Attrs[:cap(c[i].Attrs)])
	}
	return c
}

// SpoilNodes writes over all that nodes have, their spare room too.
func SpoilNodes(l []api.Node) {
	whole := l[:cap(l)]
	for i := range whole {
		attrs := whole[i].Attrs[:cap(whole[i].Attrs)]
		for k := range attrs {
			attrs[k] = Attr("spoilt", "spoilt")
		}
		whole[i] = Words(-7, "spoilt")
	}
}

// Roomy: a copy of l that has spare room, all of it filled with x.
func Roomy[T any](l []T, x T) []T {
	whole := append(slices.Clone(l), x, x, x)
	return whole[:len(l)]
}

// Away: numbers that are no places of n nodes, the ends of their type among them, and some whose low bits alone would be one.
func Away(n int) []int {
	return []int{math.MinInt, math.MinInt + 1, math.MinInt + n, -1 << 32, -1<<32 + 1, -1 << 31, -n - 1, -2, -1,
		n, n + 1, 2*n + 1, 1<<31 - 1, 1 << 31, 1 << 32, 1<<32 + 1, math.MaxInt - 1, math.MaxInt}
}

// Lists: each list of up to so many of the parts, in memory that the next one is written over.
func Lists[T any](parts []T, most int) iter.Seq[[]T] {
	return func(yield func([]T) bool) {
		longer(make([]T, 0, most), parts, most, yield)
	}
}

// longer gives l, and each list that begins with it, until one isn't wanted any more.
func longer[T any](l, parts []T, most int, yield func([]T) bool) bool {
	if !yield(l) {
		return false
	}
	if len(l) == most {
		return true
	}
	for _, x := range parts {
		if !longer(append(l, x), parts, most, yield) {
			return false
		}
	}
	return true
}
