package entries_test

import (
	"errors"
	"math"
	"slices"
	"strconv"
	"strings"
	"testing"

	"newsreel/api"
	"newsreel/sample"
)

// Any list of nodes, also such as layer 12 never gives, and long ones.

// parts: nodes of which lists of entries are made.
func (d dialect) parts() [][]api.Node {
	text, element := sample.Words, sample.Element
	whole := []api.Node{element(0, d.kid), element(0, d.date), text(1, d.epoch), element(0, d.names[0]), text(3, "g")}
	l := [][]api.Node{whole, whole, whole, whole, whole[:3], whole[:1], {text(0, "x")}, {element(0, "x"), text(0, "y"), element(0, "title")}}
	for _, name := range []string{d.names[0], "title", "link", "description", "summary", "content"} {
		for _, s := range []string{" <b>", "&amp;", "a&#98;c"} {
			l = append(l, []api.Node{element(0, name), text(0, s), element(0, "x"), text(2, "z")})
		}
		l = append(l, []api.Node{element(0, name)})
	}
	for _, s := range []string{d.epoch, d.stamp, "none"} {
		l = append(l, []api.Node{element(0, d.date), text(0, s)}, []api.Node{element(0, "published"), text(0, s)})
	}
	for _, a := range []api.Attr{sample.Attr("rel", "alternate"), sample.Attr("rel", "self"), sample.Attr("href", " c")} {
		l = append(l, []api.Node{element(0, "link", sample.Attr("href", "a <b> b"), a)}, []api.Node{element(0, "link", a, sample.Attr("href", "d"))})
	}
	return l
}

// tangle: nodes of a document that has n of the parts, mostly such as hang together, but for those that loose says.
func (d dialect) tangle(n int, mixed []uint64, loose uint64) []api.Node {
	return sample.Tangle(d.head, d.parts(), d.kid, n, mixed, loose)
}

func TestMixedLists(t *testing.T) {
	mixed := sample.Mixed(60000)
	for _, d := range dialects() {
		for turn := range 3000 {
			l := d.tangle(turn/100, mixed[turn*19:], uint64(turn%12))
			for _, most := range []int{-1, 0, 3, 30, lots} {
				for _, many := range []int{1, 3, lots} {
					d.alike(t, l, many, most)
				}
			}
			if t.Failed() {
				return
			}
		}
	}
}

// Documents whose entries are right ones, but for one or another.
func TestMixedDocuments(t *testing.T) {
	for _, d := range dialects() {
		within := []string{d.guid("g"), d.guid("a b"), d.text(1, "The &amp;lt;title&amp;gt;"), d.text(2, "http://a/?b&amp;amp;c"), d.text(3, "&lt;p>It is &lt;b>so&lt;/b>"), sample.Markup(d.date, d.stamp), "<x/>", " "}
		begin, end := "<"+d.kid+">", "</"+d.kid+">"
		odd := []string{d.guid(""), "<" + d.date + "/>", "<x>" + d.guid("y") + "</x>", end + begin, end + "<x/>" + begin, "<published>2006-01-02T00:00:00Z</published>", "<link rel='self' href='a'/>", "<content>c</content>"}
		for i, s := range sample.Texts(append(slices.Repeat(within, 6), odd...), 4000, 40) {
			l := d.document(t, d.bare(d.guid(strconv.Itoa(i)), s))
			d.alike(t, l, lots, lots)
			d.alike(t, l, i%6, i%25)
			if t.Failed() {
				return
			}
		}
	}
}

// What is read by some limits is read alike by any greater ones; by lesser ones it is read so, or not at all, for its limits alone.
func TestWhatIsReadByGreaterLimits(t *testing.T) {
	mixed := sample.Mixed(4000)
	for _, d := range dialects() {
		for turn := range 100 {
			l := d.tangle(turn/5, mixed[turn*19:], 2)
			want, all := d.read(l, math.MaxInt, math.MaxInt)
			if errors.Is(all, api.ErrLimit) { // a long Guid: by none is it read
				continue
			}
			for many := -1; many < 12; many++ {
				read := false
				for most := -1; most < 70; most++ {
					got, err := d.read(l, many, most)
					if errors.Is(err, api.ErrLimit) && !read {
						continue
					}
					read = true
					if (err == nil) != (all == nil) || !slices.Equal(got, want) {
						t.Errorf("Items(%v, %d, %d): %v, %v, not %v, %v", l, many, most, got, err, want, all)
					}
				}
			}
		}
	}
}

func TestAllShortListsOfNodes(t *testing.T) {
	const most = 3
	for _, d := range dialects() {
		head := append(slices.Clone(d.head), sample.Element(len(d.head)-1, d.kid))
		if d.dated {
			head = append(head, sample.Element(len(head)-1, d.date), sample.Words(len(head), d.epoch))
		}
		var parts []api.Node
		for up := -1; up < len(head)+most; up++ {
			parts = append(parts, sample.Words(up, ""), sample.Element(up, d.names[0]), sample.Element(up, d.kid))
		}
		for rest := range sample.Lists(parts, most) {
			for up := -1; up < len(head)+len(rest); up++ {
				l := slices.Concat(head, rest)
				l[0].Up = up
				for i := len(head); i < len(l); i++ {
					l[i].Text = strconv.Itoa(i)
				}
				d.alike(t, l, 2, 2)
			}
			if t.Failed() {
				return
			}
		}
	}
}

// many: how many nodes there are in long lists.
const many = 1 << 16

func TestManyEntries(t *testing.T) {
	for _, d := range dialects() {
		l := slices.Clone(d.head)
		for len(l) < many {
			l = append(l, sample.Element(len(d.head)-1, d.kid))
		}
		d.read.Refuses(t, l, many-len(d.head), lots, api.ErrEntry)
		d.read.Refuses(t, l, many-len(d.head)-1, lots, api.ErrLimit)
		d.read.Refuses(t, l, many, -1, api.ErrLimit)

		l = slices.Clone(d.head)
		var places []int
		var want []api.Item
		for len(l) < many {
			name := strconv.Itoa(len(want))
			places = append(places, len(l))
			l, want = d.long(l, name), append(want, d.item(name))
		}
		d.read.Reads(t, l, len(want), 5, want...)
		d.read.Refuses(t, l, len(want)-1, 5, api.ErrLimit)
		d.read.Refuses(t, l, len(want), 4, api.ErrLimit)

		mid := len(want) / 2
		l[places[mid]+1].Name = "x" // its Guid is none any more
		d.read.Refuses(t, l, len(want), 5, api.ErrEntry)
		l[places[mid]].Name = "x" // nor is it an entry
		d.read.Reads(t, l, len(want)-1, 5, slices.Delete(slices.Clone(want), mid, mid+1)...)
	}
}

// Entries whose fields stand far behind all of them, in another order.
func TestFieldsFarBehind(t *testing.T) {
	const n = many / 8
	for _, d := range dialects() {
		l := slices.Clone(d.head)
		var want []api.Item
		for i := range n {
			l = append(l, sample.Element(len(d.head)-1, d.kid))
			want = append(want, api.Item{Guid: strconv.Itoa(i), Title: "t" + strconv.Itoa(i), Dated: true})
		}
		for i := n - 1; i >= 0; i-- {
			at := len(d.head) + i
			l = append(l, sample.Element(at, d.names[0]), sample.Words(len(l), want[i].Guid), sample.Element(at, "title"), sample.Words(len(l)+2, want[i].Title), sample.Element(at, d.date), sample.Words(len(l)+4, d.epoch))
		}
		d.read.Reads(t, l, n, 6, want...)
	}
}

func TestOneEntryOfManyKids(t *testing.T) {
	for _, d := range dialects() {
		l := d.long(slices.Clone(d.head), "g")
		at, head := len(d.head), len(l)
		for len(l) < many {
			l = append(l, sample.Element(at, []string{"title", d.names[0], "x", "", "link", d.kid, "published"}[len(l)%7]))
		}
		d.read.Reads(t, l, 1, 1, d.item("g"))
		d.read.Refuses(t, l, 1, 0, api.ErrLimit)
		d.read.Refuses(t, l, 0, 1, api.ErrLimit)
		l[at+1].Name = "x" // the first Guid is an empty one
		d.read.Refuses(t, l, 1, lots, api.ErrEntry)
		l[at+1].Name = d.names[0]

		l = append(l[:head], sample.Element(at, "title"))
		for len(l) < many {
			l = append(l, sample.Words(head, "x"))
		}
		n := many - head - 1
		d.read.Reads(t, l, 1, n, api.Item{Guid: "g", Title: strings.Repeat("x", n), Dated: d.dated})
		d.read.Refuses(t, l, 1, n-1, api.ErrLimit)
		l[head].Name = d.names[0] // the second one
		d.read.Reads(t, l, 1, 1, d.item("g"))
		l[at+1].Name = "x"
		d.read.Refuses(t, l, 1, many, api.ErrLimit)
	}
}

func TestManyElementsInOneAnother(t *testing.T) {
	for _, d := range dialects() {
		for _, name := range []string{"x", d.kid, d.names[0], d.date, "title", "link", "channel", "rss", "feed"} {
			l := d.long(slices.Clone(d.head))
			for last := len(d.head) + 1; len(l) < many-1; last = len(l) - 1 {
				l = append(l, sample.Element(last, name))
			}
			l = append(l, sample.Words(len(l)-1, "g"))
			d.read.Reads(t, l, 1, 1, d.item("g"))
			d.read.Refuses(t, l, 0, 1, api.ErrLimit)
			d.read.Refuses(t, l[:many-1], 1, 1, api.ErrEntry)

			l = l[:1]
			for len(l) < many {
				l = append(l, sample.Element(len(l)-1, name))
			}
			d.alike(t, l, 0, 0)
			l[0].Name = name
			d.alike(t, l, 1, 1)
		}
	}
}

// turned: a list in which the nodes behind the head stand the other way round.
func turned(l []api.Node, head int) []api.Node {
	to := func(at int) int {
		if at < head || at >= len(l) {
			return at
		}
		return head + len(l) - 1 - at
	}
	c := slices.Clone(l)
	for at, x := range l {
		x.Up = to(x.Up)
		c[to(at)] = x
	}
	return c
}

// TestTimeGrowsAsTheList: lists so long that a walk of its own through all for each entry, or up from each node, would not come to its end within a test.
func TestTimeGrowsAsTheList(t *testing.T) {
	const n = 1 << 19
	for _, d := range dialects() {
		head := len(d.head)
		l := slices.Clone(d.head)
		var want, back []api.Item
		for len(l) < n {
			l = d.long(l, "g", "h")
			want, back = append(want, d.item("gh")), append(back, d.item("hg"))
		}
		d.read.ReadsBy(t, l, len(want), 2, want...)
		d.read.ReadsBy(t, turned(l, head), len(back), 2, back...)

		deep := d.long(slices.Clone(d.head))
		for last := head + 1; len(deep) < n-1; last = len(deep) - 1 {
			deep = append(deep, sample.Element(last, "x"))
		}
		deep = append(deep, sample.Words(len(deep)-1, "g"))
		d.read.ReadsBy(t, deep, 1, 1, d.item("g"))
		d.read.ReadsBy(t, turned(deep, head), 1, 1, d.item("g"))
		deep[0].Up = n - 1 // a ring of all
		d.alike(t, deep, 1, lots)
		d.alike(t, turned(deep, head), 1, lots)
	}
}

// Each byte is a node; numbers are limits.
func FuzzEntries(f *testing.F) {
	f.Add([]byte{0, 1, 2, 3}, uint64(0), 1, 1)
	f.Add([]byte{7, 8, 77, 200, 13, 255, 34, 91}, uint64(3), 2, 30)
	f.Fuzz(func(t *testing.T, b []byte, loose uint64, many, most int) {
		var mixed []uint64
		for i, m := range sample.Mixed(min(len(b), 60)) {
			mixed = append(mixed, m^uint64(b[i])*0x0101010101010101)
		}
		mixed = append(mixed, loose)
		for _, d := range dialects() {
			l := d.tangle(len(mixed), mixed, loose%64)
			d.alike(t, l, many, most)
			d.alike(t, l, lots, most)
			d.alike(t, l, many, lots)
			d.alike(t, l, lots, lots)
		}
	})
}
