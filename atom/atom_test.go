package atom_test

import (
	"math"
	"slices"
	"strings"
	"testing"

	"newsreel/api"
	"newsreel/atom"
	"newsreel/clean"
	"newsreel/sample"
	"newsreel/tree"
)

// What lists of nodes are made of, and documents.
var element, words, attr, away, nodes, field = sample.Element, sample.Words, sample.Attr, sample.Away, sample.Nodes, sample.Markup

// What is asked of the entries that are read; what holds of RSS, too, the tests of package entries ask.
var (
	reader                 = sample.Reader(atom.Items)
	checkItems, checkFault = reader.Reads, reader.Refuses
)

const lots = sample.Lots

// updated: a date, which is first.
const updated = "<updated>1970-01-01T00:00:00Z</updated>"

// feed: the nodes of a document that has these entries within.
func feed(t *testing.T, entries ...string) []api.Node {
	t.Helper()
	return nodes(t, field("feed", entries...))
}

// entry: one that has that within, and a date.
func entry(within ...string) string { return field("entry", append(within, updated)...) }

// id: the field of that Guid.
func id(s string) string { return field("id", s) }

// checkLink: the node's link is there, and is want.
func checkLink(t *testing.T, l []api.Node, i int, want string) {
	t.Helper()
	if got, there := atom.Link(l, i); got != want || !there {
		t.Errorf("Link(%v, %d): %.300q, %v, not %.300q, true", sample.FewNodes(l), i, got, there, want)
	}
}

func checkNoLink(t *testing.T, l []api.Node, i int) {
	t.Helper()
	if got, there := atom.Link(l, i); got != "" || there {
		t.Errorf("Link(%v, %d): %.300q, %v", sample.FewNodes(l), i, got, there)
	}
}

// plainLink: the link of the node at i, looked for from behind.
func plainLink(l []api.Node, i int) (string, bool) {
	kids := tree.Named(l, i, "link")
	link, found := "", false
	for _, at := range slices.Backward(kids) {
		href, there, rel := "", false, "alternate"
		for _, a := range slices.Backward(l[at].Attrs) {
			switch a.Name {
			case "href":
				href, there = a.Value, true
			case "rel":
				rel = a.Value
			}
		}
		if there && rel == "alternate" {
			link, found = clean.Clean(href), true
		}
	}
	return link, found
}

// checkLinks: Link tells of l what the other way tells, at each place and away from all.
func checkLinks(t *testing.T, l []api.Node) {
	t.Helper()
	for i := range l {
		if want, there := plainLink(l, i); there {
			checkLink(t, l, i, want)
		} else {
			checkNoLink(t, l, i)
		}
	}
	for _, i := range away(len(l)) {
		checkNoLink(t, l, i)
	}
}

func TestChapter(t *testing.T) {
	checkFault(t, feed(t, field("entry", id("x"), field("title", "y"))), lots, lots, api.ErrEntry)
}

func TestWholeDocument(t *testing.T) {
	l := nodes(t, `<?xml version="1.0"?>
<feed xmlns="http://www.w3.org/2005/Atom"><title>News of the coast</title><id>f</id><updated>now</updated><link href="http://a/"/>
<entry><id>1</id><title type="html">Storm &lt;i>hits&lt;/i> the coast</title><link rel="self" href="http://a/1.xml"/><link href="http://a/1"/><summary><![CDATA[<p>It was <b>loud</b>.]]></summary><updated>2006-01-02T15:04:05Z</updated></entry>
<entry><published>1970-01-01T00:00:00Z</published><content>Fish &amp;amp; chips</content><link rel="alternate" href="http://a/2?b=c&amp;amp;d"/><title>Cat found</title><id>2</id></entry>
<entry><author>c</author><id>3</id><updated>2006-01-02T15:04:05.99-07:00</updated></entry>
</feed>
`)
	checkItems(t, l, 3, 20,
		api.Item{Guid: "1", Title: "Storm hits the coast", Link: "http://a/1", Body: "It was loud .", Date: 1136214245, Dated: true},
		api.Item{Guid: "2", Title: "Cat found", Link: "http://a/2?b=c&d", Body: "Fish & chips", Dated: true},
		api.Item{Guid: "3", Date: 1136239445, Dated: true})
	checkFault(t, l, 2, 20, api.ErrLimit)
	checkFault(t, l, 3, 19, api.ErrLimit)
	checkLink(t, l, 0, "http://a/")
	checkLinks(t, l)
}

// link: a link of these attributes.
func link(attrs string) string { return "<link " + attrs + "/>" }

func TestLinkByItsAttributes(t *testing.T) {
	for _, s := range []string{"href='a'", "rel='alternate' href='a'", "href='a' rel='alternate'", "href='a' type='text/html' title='b'", "REL='self' rels='x' href='a'", "x:rel='self' href='a'", "rel='&#97;lternate' href='a'"} {
		checkLink(t, nodes(t, field("x", link(s))), 0, "a")
		checkLink(t, nodes(t, field("x", "<link "+s+">b<link href='c'/></link>")), 0, "a") // what stands within is of no account
	}
	for _, s := range []string{"", "rel='alternate'", "hrefs='a'", "HREF='a'", "x:href='a'", "xlink:href='a' rel='alternate'", "rel='self' href='a'", "href='a' rel=''", "href='a' rel='ALTERNATE'", "href='a' rel='Alternate'", "href='a' rel=' alternate'",
		"href='a' rel='alternate '", "href='a' rel='alternat'", "href='a' rel='alternates'", "href='a' rel='alternate stylesheet'", "href='a' rel='&amp;#97;lternate'", "href='a' rel='enclosure'", "rel='via' href='a'"} {
		checkNoLink(t, nodes(t, field("x", link(s))), 0)
		checkNoLink(t, nodes(t, field("x", "<link "+s+">a</link>")), 0)
	}
}

func TestLinkOfSeveral(t *testing.T) {
	good, none := []string{"href='a'", "href='b' rel='alternate'", "href=''"}, []string{"", "rel='alternate'", "href='x' rel='self'", "rel='' href='y'", "href='z' rel='ALTERNATE'"}
	want := []string{"a", "b", ""}
	for i, s := range good {
		for _, n := range none {
			checkLink(t, nodes(t, field("x", link(n), link(s))), 0, want[i])
			checkLink(t, nodes(t, field("x", link(s), link(n))), 0, want[i])
			checkLink(t, nodes(t, field("x", "y", link(n), "<z/>", link(n), link(s), link("href='other'"))), 0, want[i])
			checkNoLink(t, nodes(t, field("x", link(n), link(n), field("z", link(s)))), 0)
		}
		for _, other := range good {
			checkLink(t, nodes(t, field("x", link(s), link(other))), 0, want[i])
		}
	}
}

func TestLinkIsCleaned(t *testing.T) {
	for s, want := range map[string]string{
		"":                            "",
		" \t\n":                       "",
		"&lt;br>":                     "",
		" a ":                         "a",
		" http://a/\n b&#x20;\u00a0c": "http://a/ b c",
		"&lt;b>a&lt;/b>":              "a",
		"a?b&amp;amp;c":               "a?b&c",
		"a?b&amp;c":                   "a?b&c",
		"&amp;lt;a&amp;gt;":           "<a>",
		"&amp;#65;&amp;nope;&quot;":   "A&nope;\"",
	} {
		l := nodes(t, field("x", "<y/>", link(`href="`+s+`"`)))
		checkLink(t, l, 0, want)
		checkItems(t, feed(t, entry(id("g"), link(`href="`+s+`"`))), 1, max(1, len(want)), api.Item{Guid: "g", Link: want, Dated: true})
	}
}

func TestLinkOfNoKid(t *testing.T) {
	l := nodes(t, "<x href='a'>link<y><link href='b'/></y><Link href='c'/><links href='d'/><x:link href='e'/>"+field("link", "f")+field("href", "g")+"</x>")
	checkNoLink(t, l, 0)
	checkNoLink(t, l, 1) // a text
	checkLink(t, l, 2, "b")
	checkNoLink(t, l, 3) // the link itself
	checkLinks(t, l)
	checkNoLink(t, nodes(t, "<link href='a'/>"), 0)
	for _, i := range away(0) {
		checkNoLink(t, nil, i)
		checkNoLink(t, []api.Node{}, i)
	}
	checkNoLink(t, nil, 0)
}

func TestLinksOfRawLists(t *testing.T) {
	a, b, self, alternate := attr("href", "a"), attr("href", "b"), attr("rel", "self"), attr("rel", "alternate")
	for _, attrs := range [][]api.Attr{{a, b}, {a, b, alternate}, {alternate, a, self}, {a, alternate, b, self}, {attr("", "x"), a, attr("href", "")}} {
		checkLink(t, []api.Node{element(-1, "x"), element(0, "link", attrs...)}, 0, "a") // of each name the first one counts
	}
	for _, attrs := range [][]api.Attr{{self, a, alternate}, {a, self, alternate}, {attr("rel", ""), alternate, a}} {
		checkNoLink(t, []api.Node{element(-1, "x"), element(0, "link", attrs...)}, 0)
	}
	for _, up := range append(away(2), 1) {
		checkNoLink(t, []api.Node{element(up, "x"), element(up, "link", a)}, 0)
		checkNoLink(t, []api.Node{element(up, "x"), element(up, "link", a)}, 1) // no kid of its own
	}
	checkLink(t, []api.Node{element(2, "link", a), element(3, "link", b), element(5, "x"), {Name: "", Text: "y", Up: 0}}, 2, "a") // a parent behind its kid
	checkLink(t, []api.Node{element(2, "link", a), element(3, "link", b), element(5, "x"), {Name: "", Text: "y", Up: 0}}, 3, "b") // a text's kid
	ring := []api.Node{element(1, "link", a), element(0, "link", b)}
	checkLink(t, ring, 0, "b")
	checkLink(t, ring, 1, "a")
	checkLink(t, []api.Node{element(-1, ""), element(0, "link", attr("href", "\xff<\x00"))}, 0, clean.Clean("\xff<\x00"))
}

func TestMixedLinks(t *testing.T) {
	parts := [][]api.Node{{element(0, "x"), words(0, "y")}, {words(0, "z")}, {element(0, "link")}}
	for row := range sample.Lists([]api.Attr{attr("href", "a"), attr("href", " <b>"), attr("rel", "self"), attr("rel", "alternate"), attr("x", "href")}, 3) {
		parts = append(parts, []api.Node{element(0, "link", slices.Clone(row)...)})
	}
	mixed := sample.Mixed(6000)
	for turn := range 300 {
		checkLinks(t, sample.Tangle([]api.Node{element(-1, "x")}, parts, "x", turn/10, mixed[turn*19:], uint64(turn%64)))
		if t.Failed() {
			return
		}
	}
}

func TestRootsThatAreNoFeed(t *testing.T) {
	reader.RefusesAlways(t, nil, api.ErrFormat)
	reader.RefusesAlways(t, []api.Node{}, api.ErrFormat)
	for _, name := range []string{"", "FEED", "Feed", "fee", "feeds", "feed ", " feed", "atom:feed", "feed\x00", "rss", "html", "channel", "entry"} {
		reader.RefusesAlways(t, []api.Node{element(-1, name)}, api.ErrFormat)
		reader.RefusesAlways(t, []api.Node{element(-1, name), element(0, "feed"), element(1, "entry")}, api.ErrFormat)
		reader.RefusesAlways(t, []api.Node{element(1, name), element(-1, "feed"), element(1, "entry")}, api.ErrFormat)
	}
	reader.RefusesAlways(t, []api.Node{words(-1, "feed"), element(0, "entry")}, api.ErrFormat)
	reader.RefusesAlways(t, nodes(t, "<rss><feed>"+entry(id("x"))+"</feed></rss>"), api.ErrFormat)
	reader.RefusesAlways(t, nodes(t, "<rss><channel><item><guid>x</guid></item></channel></rss>"), api.ErrFormat)
}

func TestEntriesOfTheRootAlone(t *testing.T) {
	odd := "<entry/>" // would be an entry without a Guid
	l := feed(t, "<x>", odd, "</x>", entry(id("1"), odd, "<x>", odd, "</x>"), field("feed", odd, entry(id("3"))), "<Entry/><entries/><x:entry/><item/>", entry(odd, id("2")))
	checkItems(t, l, 2, 1, api.Item{Guid: "1", Dated: true}, api.Item{Guid: "2", Dated: true})
	checkFault(t, l, 1, 1, api.ErrLimit)
}

// An entry's fields are its own kids, not those of what stands within it.
func TestFieldsOfWhatStandsWithin(t *testing.T) {
	checkFault(t, feed(t, entry("<x>"+id("1")+"</x>")), 1, lots, api.ErrEntry)
	checkFault(t, feed(t, entry(entry(id("1")))), 1, lots, api.ErrEntry)
	checkFault(t, feed(t, field("entry", id("1"), field("x", updated))), 1, lots, api.ErrEntry)
	checkFault(t, feed(t, updated, field("entry", id("1"), entry())), 1, lots, api.ErrEntry)
	checkItems(t, feed(t, entry(entry(id("1"), field("title", "inner"), link("href='inner'"), field("content", "inner")), id("2"))), 1, 1, api.Item{Guid: "2", Dated: true})
	checkItems(t, feed(t, entry(id("2"+entry(id("1"))+"b"))), 1, lots, api.Item{Guid: "211970-01-01T00:00:00Zb", Dated: true})
	checkItems(t, feed(t, id("0"), field("title", "of the feed"), link("href='of the feed'"), entry(id("1"))), 1, 1, api.Item{Guid: "1", Dated: true})
}

func TestSummaryAheadOfContent(t *testing.T) {
	for _, row := range []struct{ within, want string }{
		{"", ""}, {"<summary>a</summary>", "a"}, {"<content>b</content>", "b"}, {"<content/>", ""}, {"<summary/>", ""},
		{"<summary>a</summary><content>b</content>", "a"}, {"<content>b</content><summary>a</summary>", "a"},
		{"<summary/><content>b</content>", ""}, {"<content>b</content><summary> &lt;br> </summary>", ""}, {"<content/><summary>a</summary>", "a"},
		{"<summary/><summary>a</summary><content>b</content>", ""}, {"<content>b</content><content>c</content>", "b"}, {"<content/><content>c</content>", ""},
		{"<content>&lt;p>b <x>c</x></content>", "b c"}, {"<content> \n </content>", ""}, {"<x><summary>a</summary></x><content>b</content>", "b"},
		{"<Summary>a</Summary><CONTENT>b</CONTENT><content:encoded>c</content:encoded><description>d</description><body>e</body>", ""},
	} {
		for _, l := range [][]api.Node{feed(t, entry(id("g"), row.within)), feed(t, entry(row.within, id("g")))} {
			checkItems(t, l, 1, 3, api.Item{Guid: "g", Body: row.want, Dated: true})
		}
	}
	long := strings.Repeat("x", 10)
	checkFault(t, feed(t, entry(id("g"), field("content", long))), 1, 9, api.ErrLimit)
	checkItems(t, feed(t, entry(id("g"), field("content", long))), 1, 10, api.Item{Guid: "g", Body: long, Dated: true})
	checkItems(t, feed(t, entry(id("g"), field("summary"), field("content", long))), 1, 1, api.Item{Guid: "g", Dated: true}) // the longer one isn't told
}

func TestUpdatedAheadOfPublished(t *testing.T) {
	const a, b, none = "2006-01-02T15:04:05Z", "1970-01-01T00:00:01Z", "2 Jan 06 10:04 EST"
	for _, row := range []struct {
		within string
		want   int
	}{
		{field("updated", a), 1136214245}, {field("published", b), 1},
		{field("updated", a) + field("published", b), 1136214245}, {field("published", b) + field("updated", a), 1136214245},
		{field("updated", a) + field("published", none), 1136214245}, {field("published") + field("updated", b), 1},
		{field("published", b) + field("published", none), 1}, {field("x", field("updated", none)) + field("published", b), 1},
		{field("updated", "9999-12-31T23:59:59Z"), api.MaxDate}, {field("published", " \n&lt;b>1970-01-01T01:00:00+01:00\t"), 0},
		{field("UPDATED", none) + field("published", b) + field("pubDate", none) + field("date", none), 1},
	} {
		for _, l := range [][]api.Node{feed(t, field("entry", id("g"), row.within), entry(id("h"))), feed(t, field("entry", row.within, id("g")), entry(id("h")))} {
			checkItems(t, l, 2, 1, api.Item{Guid: "g", Date: row.want, Dated: true}, api.Item{Guid: "h", Dated: true})
		}
	}
	for _, within := range []string{"", field("updated"), field("published"), field("updated", none), field("published", none), field("updated", " "), field("updated", "&lt;br>"),
		field("updated", none) + field("published", b), field("published", b) + field("updated", none), field("updated") + field("published", b), field("updated") + field("updated", a), field("published") + field("published", a),
		field("updated", "2006-02-30T00:00:00Z"), field("updated", "1969-12-31T23:59:59Z"), field("updated", "0"), field("pubDate", none), field("pubDate", a), field("date", a), field("Updated", a), field("x:published", a), field("x", field("updated", a)), "<x updated='" + a + "'/>"} {
		for _, l := range [][]api.Node{feed(t, field("entry", id("g"), within)), feed(t, entry(id("h")), field("entry", within, id("g"))), feed(t, field("entry", within), entry(id("h")))} {
			checkFault(t, l, 2, 1, api.ErrEntry)
			checkFault(t, l, 0, 1, api.ErrLimit)
			checkFault(t, l, 2, -1, api.ErrLimit)
		}
	}
}

func TestOtherFields(t *testing.T) {
	for _, name := range []string{"guid", "description", "body", "author", "atom:title", "x:link", "category", "dc:date"} {
		checkItems(t, feed(t, entry(id("1"), field(name, "x"))), 1, 1, api.Item{Guid: "1", Dated: true})
		checkFault(t, feed(t, entry(field(name, "x"))), 1, 1, api.ErrEntry)
	}
	checkItems(t, feed(t, entry(id("1"), field("link", "x"), link("rel='self' href='y'"))), 1, 1, api.Item{Guid: "1", Dated: true}) // no link
}

func TestNodesOfRawLists(t *testing.T) {
	date := func(l []api.Node, up int) []api.Node {
		return append(l, element(up, "published"), words(len(l), "1970-01-01T00:00:00Z"))
	}
	x, y := api.Item{Guid: "x", Dated: true}, api.Item{Guid: "y", Dated: true}
	for _, up := range append(away(9), 0, 1) { // whatever the root's parent is; and nodes that hang nowhere
		l := date([]api.Node{element(up, "feed"), element(0, "entry"), element(1, "id"), words(2, "x")}, 1)
		checkItems(t, l, 1, 1, x)
		if up > 1 || up < 0 {
			l = append(l, element(up, "entry"), element(up, "id"), words(up, "y"), element(up, "link", attr("href", "z")))
			checkItems(t, l, 1, 1, x)
		}
	}
	own := date([]api.Node{element(0, "feed"), element(1, "entry"), element(0, "entry"), element(3, "id"), element(2, "id"), words(5, "y"), words(4, "x"), element(7, "link", attr("href", "z"))}, 2)
	checkItems(t, own, 1, 1, x) // nodes that are their own parents

	behind := []api.Node{element(-1, "feed"), words(3, "x"), words(6, "1970-01-01T00:00:00Z"), element(8, "id"), element(7, "id"), words(4, "y"), element(8, "updated"), element(0, "entry"), element(0, "entry"), element(7, "updated"), words(9, "1970-01-01T00:00:00Z")}
	checkItems(t, behind, 2, 1, y, x) // the list's order counts
}

// The root stands within the Guid of its own first entry, and all entries with it.
func TestRings(t *testing.T) {
	l := []api.Node{element(2, "feed"), element(0, "entry"), element(1, "id"), words(2, "a"), element(1, "updated", attr("a", "b")), words(4, "1970-01-01T00:00:00Z"),
		element(0, "entry"), element(6, "id"), words(7, "b"), element(6, "updated"), words(9, "1970-01-01T00:00:00Z"), words(6, "c"), words(0, "d"), element(1, "link", attr("href", "e"))}
	all := "a1970-01-01T00:00:00Zb1970-01-01T00:00:00Zcd"
	checkItems(t, l, 2, len(all), api.Item{Guid: all, Link: "e", Dated: true}, api.Item{Guid: "b", Dated: true})
	checkFault(t, l, 2, len(all)-1, api.ErrLimit)
	checkLinks(t, l)
	l[0].Up = 7 // of the second one
	checkItems(t, l, 2, len(all), api.Item{Guid: "a", Link: "e", Dated: true}, api.Item{Guid: all, Dated: true})
	l[0].Up = 4 // of the first one's date
	checkFault(t, l, 2, lots, api.ErrEntry)
	for _, up := range []int{0, 1, 6, 11, 12, 13} {
		l[0].Up = up
		checkItems(t, l, 2, 1, api.Item{Guid: "a", Link: "e", Dated: true}, api.Item{Guid: "b", Dated: true})
	}
}

func TestNodesAreNotChanged(t *testing.T) {
	for _, s := range []string{"<feed><link rel='self' href='a'/>" + entry(id("b"), link("href=' c'")) + "</feed>", "<x/>"} {
		l := sample.RoomyNodes(nodes(t, s))
		before := sample.CopyNodes(l)
		for i := -1; i <= len(l); i++ {
			atom.Link(l, i)
		}
		atom.Items(l, 1, 9)
		if !sample.SameNodes(sample.CopyNodes(l), before) {
			t.Errorf("changed: %v, not %v", l[:cap(l)], before)
		}
	}
}

func TestManyLinks(t *testing.T) {
	const many = 1 << 16
	l := []api.Node{element(-1, "feed"), element(0, "entry"), element(1, "id"), words(2, "g"), element(1, "updated"), words(4, "1970-01-01T00:00:00Z")}
	for len(l) < many {
		l = append(l, element(1, "link", attr("href", "a"), attr("rel", "self")))
	}
	checkNoLink(t, l, 1)
	checkItems(t, l, 1, 1, api.Item{Guid: "g", Dated: true})
	l[many-1].Attrs = []api.Attr{attr("href", strings.Repeat("b", many))}
	checkLink(t, l, 1, strings.Repeat("b", many))
	checkItems(t, l, 1, many, api.Item{Guid: "g", Link: strings.Repeat("b", many), Dated: true})
	checkFault(t, l, 1, many-1, api.ErrLimit)
	l[6].Attrs = slices.Repeat([]api.Attr{attr("x", "y")}, many)
	l[7].Attrs = append(slices.Clone(l[6].Attrs), attr("href", "c"))
	checkLink(t, l, 1, "c")
	checkItems(t, l, 1, 1, api.Item{Guid: "g", Link: "c", Dated: true})
	checkNoLink(t, l, math.MaxInt)
}

// Each byte is an attribute of a link, or begins another one.
func FuzzLink(f *testing.F) {
	f.Add([]byte{0, 1, 2, 3, 4, 5}, " a", "alternate", 0)
	f.Add([]byte{5, 1, 0, 5, 0, 2}, "<b>&amp;", "self", 0)
	f.Fuzz(func(t *testing.T, b []byte, href, rel string, i int) {
		l := []api.Node{element(-1, "x"), element(0, "link")}
		attrs := []api.Attr{attr("href", href), attr("rel", rel), attr("rel", "alternate"), attr("x", href), attr("href", "")}
		for _, c := range b {
			if n := int(c) % 8; n < len(attrs) {
				l[len(l)-1].Attrs = append(l[len(l)-1].Attrs, attrs[n])
			} else {
				l = append(l, element(int(c)/8%3, "link"))
			}
		}
		checkLinks(t, l)
		if want, there := plainLink(l, i); there {
			checkLink(t, l, i, want)
		} else {
			checkNoLink(t, l, i)
		}
	})
}
