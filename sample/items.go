package sample

import (
	"math"
	"slices"
	"strings"

	"newsreel/api"
	"newsreel/lex"
	"newsreel/tree"
)

// Teller is told what is amiss: a test.
type Teller interface {
	Helper()
	Errorf(format string, args ...any)
	Fatalf(format string, args ...any)
}

// Lots: more entries than there are in a test, and more bytes than a text has, where it isn't about limits.
const Lots = 1 << 30

// Markup: an element that has that within, as a document writes it.
func Markup(name string, within ...string) string {
	return "<" + name + ">" + strings.Join(within, "") + "</" + name + ">"
}

// Nodes: those of the document s.
func Nodes(t Teller, s string) []api.Node {
	t.Helper()
	tokens, err := lex.Tokens(s, math.MaxInt)
	if err != nil {
		t.Fatalf("%.200q: %v", s, err)
	}
	l, err := tree.Build(tokens)
	if err != nil {
		t.Fatalf("%.200q: %v", s, err)
	}
	return l
}

// FewNodes: the first ones of l, and the begins of their texts, so that what a test tells isn't too long.
func FewNodes(l []api.Node) []api.Node {
	c := slices.Clone(l[:min(len(l), 30)])
	for i, x := range c {
		c[i].Text = x.Text[:min(len(x.Text), 100)]
	}
	return c
}

// FewItems: the first ones of l, and the begins of their texts.
func FewItems(l []api.Item) []api.Item {
	c := slices.Clone(l[:min(len(l), 10)])
	for i, x := range c {
		for n, s := range []string{x.Guid, x.Title, x.Link, x.Body} {
			Put(&c[i], n, s[:min(len(s), 100)])
		}
	}
	return c
}

// Put sets the text of that number of x: Guid, Title, Link, Body.
func Put(x *api.Item, i int, s string) {
	*[]*string{&x.Guid, &x.Title, &x.Link, &x.Body}[i] = s
}

// Reader reads the entries of nodes: the call that is tested.
type Reader func(l []api.Node, many, most int) ([]api.Item, error)

// Reads: just these entries are read of l, by these limits and by greater ones.
func (read Reader) Reads(t Teller, l []api.Node, many, most int, want ...api.Item) {
	t.Helper()
	for _, limits := range [][2]int{{many, most}, {many, greater(most)}, {greater(many), most}, {greater(many), greater(most)}, {math.MaxInt, math.MaxInt}} {
		read.ReadsBy(t, l, limits[0], limits[1], want...)
	}
}

// ReadsBy: just these entries are read of l by these limits.
func (read Reader) ReadsBy(t Teller, l []api.Node, many, most int, want ...api.Item) {
	t.Helper()
	if got, err := read(l, many, most); err != nil || !slices.Equal(got, want) {
		t.Errorf("Items(%v, %d, %d): %v, %v, not %v", FewNodes(l), many, most, FewItems(got), err, FewItems(want))
	}
}

// Told: what is told of entries by another way: ErrLimit, if they are over a limit; ErrEntry, if one is wrong; else OK, and they.
func Told(items []api.Item, over, wrong bool) ([]api.Item, api.Code) {
	switch {
	case over:
		return nil, api.ErrLimit
	case wrong:
		return nil, api.ErrEntry
	}
	return items, api.OK
}

// greater: one more than n, if there is one.
func greater(n int) int {
	if n == math.MaxInt {
		return n
	}
	return n + 1
}

// Refuses: l isn't read by these limits: the answer is an api.Fault of that Code and of no other one, which tells no place, and no entries.
func (read Reader) Refuses(t Teller, l []api.Node, many, most int, want api.Code) {
	t.Helper()
	got, err := read(l, many, most)
	if len(got) != 0 || err == nil {
		t.Errorf("Items(%v, %d, %d): %v, %v, not a fault", FewNodes(l), many, most, FewItems(got), err)
		return
	}
	if at, amiss := Fault(err, want); amiss != "" || at != 0 {
		t.Errorf("Items(%v, %d, %d): %v, %s, at %d, not %v of no place", FewNodes(l), many, most, err, amiss, at, want)
	}
}

// RefusesAlways: l isn't read, whatever the limits, for that Code.
func (read Reader) RefusesAlways(t Teller, l []api.Node, want api.Code) {
	t.Helper()
	for _, n := range []int{math.MinInt, -1, 0, 1, Lots, math.MaxInt} {
		read.Refuses(t, l, n, Lots, want)
		read.Refuses(t, l, Lots, n, want)
		read.Refuses(t, l, n, n, want)
	}
}

// Alike: of l is told what the other way tells: a Code, or, by OK, these entries.
func (read Reader) Alike(t Teller, l []api.Node, many, most int, want []api.Item, code api.Code) {
	t.Helper()
	if code != api.OK {
		read.Refuses(t, l, many, most, code)
	} else {
		read.Reads(t, l, many, most, want...)
	}
}
