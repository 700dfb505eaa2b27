package rss_test

import (
	"math"
	"slices"
	"strings"
	"testing"

	"newsreel/api"
	"newsreel/rss"
	"newsreel/sample"
)

// What lists of nodes are made of, and documents.
var element, words, away, nodes, field = sample.Element, sample.Words, sample.Away, sample.Nodes, sample.Markup

// What is asked of the entries that are read.
var (
	reader                 = sample.Reader(rss.Items)
	checkItems, checkFault = reader.Reads, reader.Refuses
)

const lots = sample.Lots

// textNames: the fields of the four texts, in the order of the entry's.
var textNames = []string{"guid", "title", "link", "description"}

// stamp: a date, and its seconds.
const (
	stamp   = "Mon, 02 Jan 2006 15:04:05 GMT"
	seconds = 1136214245
)

// channel: the nodes of a document whose channel has that within.
func channel(t *testing.T, within ...string) []api.Node {
	t.Helper()
	return nodes(t, "<rss><channel>"+strings.Join(within, "")+"</channel></rss>")
}

// item: an item that has that within.
func item(within ...string) string { return field("item", within...) }

// guid: the field of that Guid.
func guid(s string) string { return field("guid", s) }

// checkField: the field is there, and says want.
func checkField(t *testing.T, l []api.Node, i int, name, want string) {
	t.Helper()
	if got, there := rss.Field(l, i, name); got != want || !there {
		t.Errorf("Field(%v, %d, %q): %.300q, %v, not %.300q, true", sample.FewNodes(l), i, name, got, there, want)
	}
}

func checkNoField(t *testing.T, l []api.Node, i int, name string) {
	t.Helper()
	if got, there := rss.Field(l, i, name); got != "" || there {
		t.Errorf("Field(%v, %d, %q): %.300q, %v", sample.FewNodes(l), i, name, got, there)
	}
}

// checkChannel: the channel of l is at that place.
func checkChannel(t *testing.T, l []api.Node, want int) {
	t.Helper()
	if got, there := rss.Channel(l); got != want || !there {
		t.Errorf("Channel(%v): %d, %v, not %d, true", sample.FewNodes(l), got, there, want)
	}
}

// checkNoChannel: l has none, and Items says so, whatever the limits.
func checkNoChannel(t *testing.T, l []api.Node) {
	t.Helper()
	if got, there := rss.Channel(l); got != 0 || there {
		t.Errorf("Channel(%v): %d, %v", sample.FewNodes(l), got, there)
	}
	reader.RefusesAlways(t, l, api.ErrFormat)
}

// checkAsked: Field and Channel tell of l what the other way tells, at each place and away from all.
func checkAsked(t *testing.T, l []api.Node, names ...string) {
	t.Helper()
	if at := plainChannel(l); at >= 0 {
		checkChannel(t, l, at)
	} else {
		checkNoChannel(t, l)
	}
	for _, name := range names {
		for i := range l {
			if want, kids := plainField(l, i, name); kids > 0 {
				checkField(t, l, i, name, want)
			} else {
				checkNoField(t, l, i, name)
			}
		}
		for _, i := range away(len(l)) {
			checkNoField(t, l, i, name)
		}
	}
}

func checkShort(t *testing.T, x api.Item, most int, want bool) {
	t.Helper()
	if got := rss.Short(x, most); got != want {
		t.Errorf("Short(%v, %d): %v", x, most, got)
	}
}

func TestChapter(t *testing.T) {
	checkFault(t, channel(t, item(field("title", "x"))), lots, lots, api.ErrEntry)
}

func TestWholeDocument(t *testing.T) {
	l := nodes(t, `<?xml version="1.0"?>
<rss version="2.0"><channel><title>News of the coast</title>
<item><guid isPermaLink="false">1</guid><title>Storm hits the coast</title><link>http://a/1</link><description><![CDATA[<p>It was <b>loud</b>.]]></description><pubDate>`+stamp+`</pubDate></item>
<item><description>Fish &amp;amp; chips</description><pubDate>1 Jan 1970 00:00 Z</pubDate><link>http://a/2</link><title>Cat found</title><guid>2</guid></item>
<item><author>c</author><guid>3</guid></item>
</channel></rss>
`)
	checkItems(t, l, 3, 20,
		api.Item{Guid: "1", Title: "Storm hits the coast", Link: "http://a/1", Body: "It was loud .", Date: seconds, Dated: true},
		api.Item{Guid: "2", Title: "Cat found", Link: "http://a/2", Body: "Fish & chips", Dated: true},
		api.Item{Guid: "3"})
	checkFault(t, l, 2, 20, api.ErrLimit)
	checkFault(t, l, 3, 19, api.ErrLimit)
	checkChannel(t, l, 1)
	checkField(t, l, 1, "title", "News of the coast")
}

func TestChannelOfNoNodes(t *testing.T) {
	checkNoChannel(t, nil)
	checkNoChannel(t, []api.Node{})
}

func TestChannelOfOtherRoots(t *testing.T) {
	for _, name := range []string{"", "RSS", "Rss", "rs", "rsss", "rss ", " rss", "rss:rss", "rss\x00", "feed", "html", "channel", "item"} {
		checkNoChannel(t, []api.Node{element(-1, name)})
		checkNoChannel(t, []api.Node{element(-1, name), element(0, "channel")})
		checkNoChannel(t, []api.Node{element(-1, name), element(0, "channel"), element(1, "item"), element(2, "guid"), words(3, "x")})
		checkNoChannel(t, []api.Node{element(-1, name), element(0, "rss"), element(1, "channel")})
		checkNoChannel(t, []api.Node{element(-1, name), element(-1, "rss"), element(1, "channel")})
	}
	checkNoChannel(t, []api.Node{words(-1, "rss"), element(0, "channel")})
	checkNoChannel(t, []api.Node{element(1, "channel"), element(-1, "rss")}) // the root stands behind it
	checkNoChannel(t, nodes(t, "<feed><channel><item><guid>x</guid></item></channel></feed>"))
	checkNoChannel(t, nodes(t, "<channel><item><guid>x</guid></item></channel>"))
}

func TestChannelThatIsNotThere(t *testing.T) {
	for _, s := range []string{"<rss/>", "<rss></rss>", "<rss>channel</rss>", "<rss><Channel/></rss>", "<rss><channels/></rss>", "<rss><x:channel/></rss>", "<rss channel='channel'/>",
		"<rss><item><guid>x</guid></item></rss>", "<rss><x><channel/></x></rss>", "<rss><rss><channel/></rss></rss>", "<rss><item><channel/></item><x/></rss>"} {
		checkNoChannel(t, nodes(t, s))
	}
}

func TestChannelIsTheRootsFirst(t *testing.T) {
	for s, want := range map[string]int{
		"<rss><channel/></rss>":                                       1,
		"<rss><channel/><channel/></rss>":                             1,
		"<rss>x<channel/></rss>":                                      2,
		"<rss><item/><x/>\n<channel/></rss>":                          4,
		"<rss><x><channel/></x><channel/></rss>":                      3,
		"<rss><rss><channel/></rss><y/><channel/><channel/></rss>":    4,
		"<rss><channel><channel/></channel></rss>":                    1,
		"<rss><Channel/><channels/><channel/></rss>":                  3,
		"<rss version='2.0'><!-- c --><channel>x</channel><y/></rss>": 1,
	} {
		checkChannel(t, nodes(t, s), want)
	}
}

func TestChannelOfRawLists(t *testing.T) {
	for _, up := range append(away(2), 0, 1) {
		checkChannel(t, []api.Node{element(up, "rss"), element(0, "channel")}, 1) // whatever the root's parent is
		if up != 0 {
			checkNoChannel(t, []api.Node{element(-1, "rss"), element(up, "channel")})
			checkChannel(t, []api.Node{element(-1, "rss"), element(up, "channel"), element(0, "channel")}, 2)
		}
	}
	checkNoChannel(t, []api.Node{element(0, "rss")})
	checkNoChannel(t, []api.Node{element(-1, "rss"), element(2, "channel"), element(0, "x")})
	checkChannel(t, []api.Node{{Name: "rss", Text: "x", Up: -1}, words(0, "channel"), {Name: "channel", Text: "y", Up: 0}}, 2)
}

func TestFieldThatIsNotThere(t *testing.T) {
	l := nodes(t, "<a>text<b><c>x</c></b><B/><bb/><d e='f'/></a>")
	for _, name := range []string{"", "a", "c", "e", "f", "text", "x", "b ", " b", "b\x00", "D"} {
		checkNoField(t, l, 0, name)
	}
	checkNoField(t, l, 1, "b") // a text has no kids
	checkNoField(t, l, 3, "x")
	checkNoField(t, nil, 0, "a")
	checkNoField(t, []api.Node{}, 0, "")
	for _, i := range away(len(l)) {
		for _, name := range []string{"", "a", "b", "c"} {
			checkNoField(t, l, i, name)
			checkNoField(t, nil, i, name)
		}
	}
}

func TestFieldOfSeveralKids(t *testing.T) {
	l := nodes(t, "<a><b>1</b><c>2</c><b>3</b><c/><d/><d>4</d><b><b>5</b></b></a>")
	checkField(t, l, 0, "b", "1")
	checkField(t, l, 0, "c", "2")
	checkField(t, l, 0, "d", "") // the first one is there, with nothing
	checkAsked(t, l, "a", "b", "c", "d", "")
	checkField(t, nodes(t, "<a><c><b>1</b></c><b>2</b></a>"), 0, "b", "2")
}

func TestFieldIsCleaned(t *testing.T) {
	for s, want := range map[string]string{
		"":                                "",
		"x":                               "x",
		" \t ":                            "",
		"\n  fish\r\n\tand \u00a0 chips ": "fish and chips",
		"&lt;p>Fish &amp;amp; &lt;b>chips&lt;/b>":         "Fish & chips",
		"<![CDATA[<p>Fish &amp; <b>chips</b>]]>":          "Fish & chips",
		"&amp;lt;p&amp;gt;":                               "<p>",
		"&amp;nope; &amp; 1 &lt; 2":                       "&nope; & 1 < 2",
		"&lt;br/>&lt;hr/> ":                               "",
		"&amp;#65;&amp;#x20ac;&amp;#32;":                  "A\u20ac",
		" one <b> two</b>three<c/><!-- four -->\nfive ":   "one twothree five",
		"a<b>b<c>c</c></b><b/>d":                          "abcd",
		"&lt;<b>p></b>x":                                  "x", // cleaned as one text, put together first
		"&amp;am<b>p;</b>":                                "&",
		"1 <b> </b> <b> <c> </c> </b> 2":                  "1 2",
		"\u00c4 <b a='attributes don&apos;t count'>b</b>": "\u00c4 b",
	} {
		l := nodes(t, "<a>ahead<f>"+s+"</f>behind</a>")
		checkField(t, l, 0, "f", want)
		checkAsked(t, l, "f", "b", "c")
		checkItems(t, channel(t, item(guid("g"), field("title", s), field("link", s), field("description", s))), 1, max(len(want), 1),
			api.Item{Guid: "g", Title: want, Link: want, Body: want})
	}
}

func TestItemsOfTheChannelAlone(t *testing.T) {
	odd := "<item/>" // would be an entry without a Guid
	l := nodes(t, "<rss>"+odd+"<channel><x>"+odd+"</x>"+item(guid("1"), "<x>"+odd+"</x>", odd)+"<channel>"+odd+"</channel>"+item(odd, guid("2"))+"</channel><channel>"+odd+item(guid("3"))+"</channel>"+odd+item(guid("4"))+"</rss>")
	checkItems(t, l, 2, 1, api.Item{Guid: "1"}, api.Item{Guid: "2"})
	checkFault(t, l, 1, 1, api.ErrLimit)
}

func TestOtherFields(t *testing.T) {
	for _, name := range []string{"id", "summary", "content", "content:encoded", "body", "date", "published", "updated", "dc:date", "pubdate", "PubDate"} {
		checkItems(t, channel(t, item(guid("1"), field(name, "x"))), 1, 1, api.Item{Guid: "1"})
		checkFault(t, channel(t, item(field(name, "x"))), 1, 1, api.ErrEntry)
	}
	l := channel(t, item(guid("1"), "<link href='a'>b</link>"))
	checkItems(t, l, 1, 1, api.Item{Guid: "1", Link: "b"})
}

func TestDates(t *testing.T) {
	for s, want := range map[string]int{"1 Jan 1970 00:00 Z": 0, "2 Jan 06 10:04 EST": 1136214240, "Fri, 31 Dec 9999 23:59:59 GMT": api.MaxDate} {
		checkItems(t, channel(t, item(guid("g"), field("pubDate", s)), item(guid("h"))), 2, 1, api.Item{Guid: "g", Date: want, Dated: true}, api.Item{Guid: "h"})
	}
	for _, s := range []string{"0", "2006-01-02T15:04:05Z", "2006-01-02 15:04:05Z", "30 Feb 2006 00:00 Z", "31 Dec 1969 23:59:59 GMT", "1 Jan 1970 00:00 +0001", "02 jan 2006 15:04:05 GMT", "Mon, 02 Jan 2006 15:04:05"} {
		checkFault(t, channel(t, item(guid("g"), field("pubDate", s)), item(guid("h"))), 2, 1, api.ErrEntry)
	}
}

// An item's fields are its own kids, not those of what stands within it.
func TestFieldsOfWhatStandsWithin(t *testing.T) {
	checkFault(t, channel(t, item("<x>"+guid("1")+"</x>")), 1, lots, api.ErrEntry)
	checkFault(t, channel(t, item(item(guid("1")))), 1, lots, api.ErrEntry)
	checkItems(t, channel(t, item(item(guid("1"), field("pubDate", "x"), field("title", "inner")), guid("2"))), 1, 1, api.Item{Guid: "2"})
	checkItems(t, channel(t, item(guid("2"+item(guid("1"), field("title", "a"))+"b"), "<x><pubDate/></x>")), 1, lots, api.Item{Guid: "21ab"})
	checkItems(t, channel(t, guid("0"), field("title", "of the channel"), field("pubDate", "x"), item(guid("1"))), 1, 1, api.Item{Guid: "1"})
}

func TestShort(t *testing.T) {
	for i := range textNames {
		for _, n := range []int{0, 1, 2, 100, 255, 256} {
			var x api.Item
			sample.Put(&x, i, strings.Repeat("x", n))
			for _, date := range []int{0, 1, -1, 1 << 32, math.MinInt, math.MaxInt} {
				for _, dated := range []bool{false, true} { // both are of no account
					x.Date, x.Dated = date, dated
					for _, most := range []int{n, n + 1, 1024, 1 << 32, math.MaxInt - 1, math.MaxInt} {
						checkShort(t, x, most, true)
					}
					for _, most := range []int{n - 1, -1, -n - 1, -1 << 32, -1<<32 + n, math.MinInt + n, math.MinInt} {
						checkShort(t, x, most, false)
					}
				}
			}
		}
	}
}

func TestShortOfAllTexts(t *testing.T) {
	x := api.Item{Guid: "four", Title: "four", Link: "four", Body: "four"}
	checkShort(t, x, 4, true)
	for i := range textNames {
		one := x
		sample.Put(&one, i, "five!")
		checkShort(t, one, 4, false)
		checkShort(t, one, 5, true)
		sample.Put(&one, i, "\u20ac\u20ac") // six bytes, two runes
		checkShort(t, one, 5, false)
		checkShort(t, one, 6, true)
		sample.Put(&one, i, " <b> ") // they are taken as they are, not cleaned again
		checkShort(t, one, 4, false)
		sample.Put(&one, i, "\xff\x00\xff\x00\xff")
		checkShort(t, one, 4, false)
		checkShort(t, one, 5, true)
	}
	checkShort(t, api.Item{}, 0, true)
	checkShort(t, api.Item{}, -1, false)
	checkShort(t, api.Item{}, math.MinInt, false)
}

func TestShortOfGuids(t *testing.T) {
	for _, most := range []int{256, 257, 258, 1024, 1 << 16, 1 << 32, math.MaxInt} {
		checkShort(t, api.Item{Guid: strings.Repeat("g", 256)}, most, true)
		checkShort(t, api.Item{Guid: strings.Repeat("g", 257)}, most, false)
		checkShort(t, api.Item{Guid: strings.Repeat("g", 258)}, most, false)
		checkShort(t, api.Item{Guid: strings.Repeat("g", 1<<16)}, most, false)
	}
	checkShort(t, api.Item{Guid: strings.Repeat("g", 256)}, 255, false)
	long := strings.Repeat("x", 1<<16)
	checkShort(t, api.Item{Guid: "g", Title: long, Link: long, Body: long}, 1<<16, true)
	checkShort(t, api.Item{Guid: "g", Title: long, Link: long, Body: long}, 1<<16-1, false)
}

// A node that is its own parent is no kid of its own.
func TestNodesThatAreTheirOwnParents(t *testing.T) {
	checkItems(t, []api.Node{element(0, "rss"), element(0, "channel"), element(2, "item"), element(1, "item"), element(4, "guid"), element(3, "guid"), words(5, "x"), words(7, "y"), words(4, "z")}, 1, 1, api.Item{Guid: "x"})
	checkFault(t, []api.Node{element(0, "rss"), element(0, "channel"), element(1, "item"), element(3, "guid"), words(3, "x")}, 1, 1, api.ErrEntry)
	checkField(t, []api.Node{element(1, "a"), element(1, "b"), element(1, "b"), words(2, "x"), words(1, "y")}, 1, "b", "x")
	checkNoField(t, []api.Node{element(0, "a"), words(0, "x")}, 0, "a")
}

func TestParentsThatAreNoPlaces(t *testing.T) {
	for _, up := range away(9) {
		l := []api.Node{element(up, "rss"), element(0, "channel"), element(up, "item"), element(1, "item"), element(up, "guid"), words(up, "w"), element(3, "guid"), words(up, "y"), words(6, "x")}
		checkItems(t, l, 1, 1, api.Item{Guid: "x"})
		checkFault(t, l[:6], 1, 1, api.ErrEntry)
		checkAsked(t, l, "item", "guid", "channel")
	}
}

// Nodes in another order than layer 12's: it is the list's order that counts.
func TestParentsBehindTheirKids(t *testing.T) {
	l := []api.Node{element(-1, "rss"), words(4, "1"), element(8, "item"), words(4, "2"), element(2, "guid"), words(7, "3"), element(8, "item"), element(6, "guid"), element(0, "channel"), element(6, "guid"), words(9, "none"), words(7, "4")}
	checkChannel(t, l, 8)
	checkItems(t, l, 2, 2, api.Item{Guid: "12"}, api.Item{Guid: "34"})
	slices.Reverse(l[9:])
	for i := range l {
		if l[i].Up == 9 {
			l[i].Up = 11
		}
	}
	checkItems(t, l, 2, 2, api.Item{Guid: "12"}, api.Item{Guid: "34"})
	checkAsked(t, l, "item", "guid")
}

// The channel stands within the Guid of its own first item, and all items with it.
func TestRings(t *testing.T) {
	l := []api.Node{element(3, "rss"), element(0, "channel"), element(1, "item"), element(2, "guid"), words(3, "a"), element(1, "item"), element(5, "guid"), words(6, "b"), words(0, "c"), words(1, "d"), words(2, "e"), words(5, "f")}
	checkItems(t, l, 2, 6, api.Item{Guid: "abcdef"}, api.Item{Guid: "b"})
	checkFault(t, l, 2, 5, api.ErrLimit)
	checkAsked(t, l, "item", "guid", "channel")
	for _, up := range []int{6, 7} { // of the second one
		l[0].Up = up
		checkItems(t, l, 2, 6, api.Item{Guid: "a"}, api.Item{Guid: "abcdef"})
	}
	l[0].Up = 5 // of the second item, but not of its Guid
	checkItems(t, l, 2, 1, api.Item{Guid: "a"}, api.Item{Guid: "b"})
	for _, up := range []int{0, 1, 8, 9, 11} {
		l[0].Up = up
		checkItems(t, l, 2, 1, api.Item{Guid: "a"}, api.Item{Guid: "b"})
	}
	l = append(l, element(13, "x"), element(12, "y"), words(12, "z"), element(15, "guid"), element(15, "item")) // a ring beside it, and a row that leads nowhere
	checkItems(t, l, 2, 1, api.Item{Guid: "a"}, api.Item{Guid: "b"})
	checkAsked(t, l, "item", "guid", "x", "y")
}

// Nodes that have both a name and a text, or kids and no name, as no tree has them.
func TestOddNodes(t *testing.T) {
	l := []api.Node{{Name: "rss", Text: "1", Up: -1}, {Name: "channel", Text: "2", Up: 0}, {Name: "item", Text: "3", Up: 1}, {Name: "guid", Text: "4", Up: 2, Attrs: []api.Attr{{Name: "guid", Value: "5"}}},
		words(3, "6"), {Up: 2}, {Name: "title", Up: 5}, words(6, "7"), words(4, "8"), element(4, "link"), words(9, "9"), {Text: "guid", Up: 2}}
	checkItems(t, l, 1, 3, api.Item{Guid: "689"})
	checkField(t, l, 5, "title", "7")
	checkField(t, l, 4, "link", "9")
	checkAsked(t, l, "item", "guid", "title", "link", "")
	for _, name := range []string{"\xff\x00", "a b", strings.Repeat("n", 1000)} {
		checkField(t, []api.Node{element(-1, "a"), element(0, name), words(1, " \xff\x00 ")}, 0, name, "\xff\x00")
	}
}

func TestMixedLists(t *testing.T) {
	head := []api.Node{element(-1, "rss"), element(0, "channel")}
	parts := [][]api.Node{{element(0, "x"), words(0, "y")}, {words(0, " &amp;")}, {element(0, "item")}, {element(0, "channel")}, {element(0, "guid"), words(0, "a <b>")}}
	mixed := sample.Mixed(6000)
	for turn := range 300 {
		l := sample.Tangle(head, parts, "item", turn/10, mixed[turn*19:], uint64(turn%64))
		checkAsked(t, l, "guid", "item", "channel", "x", "")
		if t.Failed() {
			return
		}
	}
}

func TestNodesAreNotChanged(t *testing.T) {
	for _, s := range []string{"<rss><channel><title> x<b/>y</title><item><guid/></item></channel></rss>", "<rss><guid>a</guid></rss>", "<x/>"} {
		l := sample.RoomyNodes(nodes(t, s))
		before := sample.CopyNodes(l)
		for i := -1; i <= len(l); i++ {
			rss.Field(l, i, "guid")
			rss.Field(l, i, "title")
			rss.Channel(l)
		}
		if !sample.SameNodes(sample.CopyNodes(l), before) {
			t.Errorf("changed: %v, not %v", l[:cap(l)], before)
		}
	}
}

func TestFieldsOfManyKids(t *testing.T) {
	const many = 1 << 16
	l := []api.Node{element(-1, "rss"), element(0, "channel"), element(1, "title")}
	for len(l) < many {
		l = append(l, words(2, "x"), element(1, []string{"x", "title", ""}[len(l)/2%3]))
	}
	checkField(t, l, 1, "title", strings.Repeat("x", (len(l)-3)/2))
	checkField(t, l, 1, "x", "")
	checkNoField(t, l, 1, "y")
	checkNoField(t, l, many, "title")
	checkChannel(t, l, 1)
	l[1].Name = "x"
	checkNoChannel(t, l)
}
