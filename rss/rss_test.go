package rss_test

import (
	"errors"
	"fmt"
	"math"
	"slices"
	"strconv"
	"strings"
	"testing"

	"newsreel/api"
	"newsreel/lex"
	"newsreel/rss"
	"newsreel/sample"
	"newsreel/tree"
)

// What lists of nodes are made of.
var element, words, away = sample.Element, sample.Words, sample.Away

// textNames: the fields of the four texts, in the order of the entry's.
var textNames = []string{"guid", "title", "link", "description"}

// lots: more than there are items, and bytes of a text, where a test isn't about limits.
const lots = 1 << 30

// stamp: a date, and its seconds.
const (
	stamp   = "Mon, 02 Jan 2006 15:04:05 GMT"
	seconds = 1136214245
)

// nodes: those of the document s.
func nodes(t *testing.T, s string) []api.Node {
	t.Helper()
	tokens, err := lex.Tokens(s, math.MaxInt)
	if err != nil {
		t.Fatalf("%.200q: %v", s, err)
	}
	l, err := tree.Build(tokens)
	if err != nil {
		t.Fatalf("%.200q: %v", s, err)
	}
	return l
}

// channel: the nodes of a document whose channel has that within.
func channel(t *testing.T, within ...string) []api.Node {
	t.Helper()
	return nodes(t, "<rss><channel>"+strings.Join(within, "")+"</channel></rss>")
}

// item: an item that has that within.
func item(within ...string) string { return "<item>" + strings.Join(within, "") + "</item>" }

// field: an element that has that within.
func field(name, within string) string { return "<" + name + ">" + within + "</" + name + ">" }

// guid: the field of that Guid.
func guid(s string) string { return field("guid", s) }

// tell: the begin of what x is.
func tell(x any) string {
	s := fmt.Sprintf("%+v", x)
	return s[:min(len(s), 1000)]
}

// checkItems: Items answers just these entries of l, by these limits and by greater ones.
func checkItems(t *testing.T, l []api.Node, many, most int, want ...api.Item) {
	t.Helper()
	for _, limits := range [][2]int{{many, most}, {many, greater(most)}, {greater(many), most}, {greater(many), greater(most)}, {math.MaxInt, math.MaxInt}} {
		got, err := rss.Items(l, limits[0], limits[1])
		if err != nil || !slices.Equal(got, want) {
			t.Errorf("Items(%s, %d, %d): %s, %v, not %s", tell(l), limits[0], limits[1], tell(got), err, tell(want))
			return
		}
	}
}

// greater: one more than n, if there is one.
func greater(n int) int {
	if n == math.MaxInt {
		return n
	}
	return n + 1
}

// checkFault: Items answers an api.Fault of that Code and of no other one, which tells no place, and no entries.
func checkFault(t *testing.T, l []api.Node, many, most int, want api.Code) {
	t.Helper()
	got, err := rss.Items(l, many, most)
	if len(got) != 0 || err == nil {
		t.Errorf("Items(%s, %d, %d): %s, %v, not a fault", tell(l), many, most, tell(got), err)
		return
	}
	if at, amiss := sample.Fault(err, want); amiss != "" || at != 0 {
		t.Errorf("Items(%s, %d, %d): %v, %s, at %d, not %v of no place", tell(l), many, most, err, amiss, at, want)
	}
}

// checkAlike: Items tells of l what the other way tells.
func checkAlike(t *testing.T, l []api.Node, many, most int) {
	t.Helper()
	want, code := plainItems(l, many, most)
	if code != api.OK {
		checkFault(t, l, many, most, code)
		return
	}
	checkItems(t, l, many, most, want...)
}

// checkField: the field is there, and says want.
func checkField(t *testing.T, l []api.Node, i int, name, want string) {
	t.Helper()
	if got, there := rss.Field(l, i, name); got != want || !there {
		t.Errorf("Field(%s, %d, %q): %.300q, %v, not %.300q, true", tell(l), i, name, got, there, want)
	}
}

func checkNoField(t *testing.T, l []api.Node, i int, name string) {
	t.Helper()
	if got, there := rss.Field(l, i, name); got != "" || there {
		t.Errorf("Field(%s, %d, %q): %.300q, %v", tell(l), i, name, got, there)
	}
}

// checkChannel: the channel of l is at that place.
func checkChannel(t *testing.T, l []api.Node, want int) {
	t.Helper()
	if got, there := rss.Channel(l); got != want || !there {
		t.Errorf("Channel(%s): %d, %v, not %d, true", tell(l), got, there, want)
	}
}

// checkNoChannel: l has none, and Items says so, whatever the limits.
func checkNoChannel(t *testing.T, l []api.Node) {
	t.Helper()
	if got, there := rss.Channel(l); got != 0 || there {
		t.Errorf("Channel(%s): %d, %v", tell(l), got, there)
	}
	for _, n := range []int{math.MinInt, -1, 0, 1, lots, math.MaxInt} {
		checkFault(t, l, n, lots, api.ErrFormat)
		checkFault(t, l, lots, n, api.ErrFormat)
		checkFault(t, l, n, n, api.ErrFormat)
	}
}

// checkAsked: Field and Channel tell of l what the other way tells, at each place and away from all.
func checkAsked(t *testing.T, l []api.Node, names ...string) {
	t.Helper()
	if at := plainChannel(l); at >= 0 {
		checkChannel(t, l, at)
	} else {
		checkNoChannel(t, l)
	}
	for _, name := range names {
		for i := range l {
			if want, kids := plainField(l, i, name); kids > 0 {
				checkField(t, l, i, name, want)
			} else {
				checkNoField(t, l, i, name)
			}
		}
		for _, i := range away(len(l)) {
			checkNoField(t, l, i, name)
		}
	}
}

func checkShort(t *testing.T, x api.Item, most int, want bool) {
	t.Helper()
	if got := rss.Short(x, most); got != want {
		t.Errorf("Short(%s, %d): %v", tell(x), most, got)
	}
}

func TestChapter(t *testing.T) {
	checkFault(t, channel(t, item(field("title", "x"))), lots, lots, api.ErrEntry)
}

func TestWholeDocument(t *testing.T) {
	l := nodes(t, `<?xml version="1.0"?>
<rss version="2.0"><channel><title>News of the coast</title>
<item><guid isPermaLink="false">1</guid><title>Storm hits the coast</title><link>http://a/1</link><description><![CDATA[<p>It was <b>loud</b>.]]></description><pubDate>`+stamp+`</pubDate></item>
<item><description>Fish &amp;amp; chips</description><pubDate>1 Jan 1970 00:00 Z</pubDate><link>http://a/2</link><title>Cat found</title><guid>2</guid></item>
<item><author>c</author><guid>3</guid></item>
</channel></rss>
`)
	checkItems(t, l, 3, 20,
		api.Item{Guid: "1", Title: "Storm hits the coast", Link: "http://a/1", Body: "It was loud .", Date: seconds, Dated: true},
		api.Item{Guid: "2", Title: "Cat found", Link: "http://a/2", Body: "Fish & chips", Dated: true},
		api.Item{Guid: "3"})
	checkFault(t, l, 2, 20, api.ErrLimit)
	checkFault(t, l, 3, 19, api.ErrLimit)
	checkChannel(t, l, 1)
	checkField(t, l, 1, "title", "News of the coast")
}

func TestChannelOfNoNodes(t *testing.T) {
	checkNoChannel(t, nil)
	checkNoChannel(t, []api.Node{})
}

func TestChannelOfOtherRoots(t *testing.T) {
	for _, name := range []string{"", "RSS", "Rss", "rs", "rsss", "rss ", " rss", "rss:rss", "rss\x00", "feed", "html", "channel", "item"} {
		checkNoChannel(t, []api.Node{element(-1, name)})
		checkNoChannel(t, []api.Node{element(-1, name), element(0, "channel")})
		checkNoChannel(t, []api.Node{element(-1, name), element(0, "channel"), element(1, "item"), element(2, "guid"), words(3, "x")})
		checkNoChannel(t, []api.Node{element(-1, name), element(0, "rss"), element(1, "channel")})
		checkNoChannel(t, []api.Node{element(-1, name), element(-1, "rss"), element(1, "channel")})
	}
	checkNoChannel(t, []api.Node{words(-1, "rss"), element(0, "channel")})
	checkNoChannel(t, []api.Node{element(1, "channel"), element(-1, "rss")}) // the root stands behind it
	checkNoChannel(t, nodes(t, "<feed><channel><item><guid>x</guid></item></channel></feed>"))
	checkNoChannel(t, nodes(t, "<channel><item><guid>x</guid></item></channel>"))
}

func TestChannelThatIsNotThere(t *testing.T) {
	for _, s := range []string{"<rss/>", "<rss></rss>", "<rss>channel</rss>", "<rss><Channel/></rss>", "<rss><channels/></rss>", "<rss><x:channel/></rss>", "<rss channel='channel'/>",
		"<rss><item><guid>x</guid></item></rss>", "<rss><x><channel/></x></rss>", "<rss><rss><channel/></rss></rss>", "<rss><item><channel/></item><x/></rss>"} {
		checkNoChannel(t, nodes(t, s))
	}
}

func TestChannelIsTheRootsFirst(t *testing.T) {
	for s, want := range map[string]int{
		"<rss><channel/></rss>":                                       1,
		"<rss><channel/><channel/></rss>":                             1,
		"<rss>x<channel/></rss>":                                      2,
		"<rss><item/><x/>\n<channel/></rss>":                          4,
		"<rss><x><channel/></x><channel/></rss>":                      3,
		"<rss><rss><channel/></rss><y/><channel/><channel/></rss>":    4,
		"<rss><channel><channel/></channel></rss>":                    1,
		"<rss><Channel/><channels/><channel/></rss>":                  3,
		"<rss version='2.0'><!-- c --><channel>x</channel><y/></rss>": 1,
	} {
		checkChannel(t, nodes(t, s), want)
	}
}

func TestChannelOfRawLists(t *testing.T) {
	for _, up := range append(away(2), 0, 1) {
		checkChannel(t, []api.Node{element(up, "rss"), element(0, "channel")}, 1) // whatever the root's parent is
		if up != 0 {
			checkNoChannel(t, []api.Node{element(-1, "rss"), element(up, "channel")})
			checkChannel(t, []api.Node{element(-1, "rss"), element(up, "channel"), element(0, "channel")}, 2)
		}
	}
	checkNoChannel(t, []api.Node{element(0, "rss")})
	checkNoChannel(t, []api.Node{element(-1, "rss"), element(2, "channel"), element(0, "x")})
	checkChannel(t, []api.Node{{Name: "rss", Text: "x", Up: -1}, words(0, "channel"), {Name: "channel", Text: "y", Up: 0}}, 2)
}

func TestFieldThatIsNotThere(t *testing.T) {
	l := nodes(t, "<a>text<b><c>x</c></b><B/><bb/><d e='f'/></a>")
	for _, name := range []string{"", "a", "c", "e", "f", "text", "x", "b ", " b", "b\x00", "D"} {
		checkNoField(t, l, 0, name)
	}
	checkNoField(t, l, 1, "b") // a text has no kids
	checkNoField(t, l, 3, "x")
	checkNoField(t, nil, 0, "a")
	checkNoField(t, []api.Node{}, 0, "")
	for _, i := range away(len(l)) {
		for _, name := range []string{"", "a", "b", "c"} {
			checkNoField(t, l, i, name)
			checkNoField(t, nil, i, name)
		}
	}
}

func TestFieldOfSeveralKids(t *testing.T) {
	l := nodes(t, "<a><b>1</b><c>2</c><b>3</b><c/><d/><d>4</d><b><b>5</b></b></a>")
	checkField(t, l, 0, "b", "1")
	checkField(t, l, 0, "c", "2")
	checkField(t, l, 0, "d", "") // the first one is there, with nothing
	checkAsked(t, l, "a", "b", "c", "d", "")
	checkField(t, nodes(t, "<a><c><b>1</b></c><b>2</b></a>"), 0, "b", "2")
}

func TestFieldIsCleaned(t *testing.T) {
	for s, want := range map[string]string{
		"":                                "",
		"x":                               "x",
		" \t ":                            "",
		"\n  fish\r\n\tand \u00a0 chips ": "fish and chips",
		"&lt;p>Fish &amp;amp; &lt;b>chips&lt;/b>":         "Fish & chips",
		"<![CDATA[<p>Fish &amp; <b>chips</b>]]>":          "Fish & chips",
		"&amp;lt;p&amp;gt;":                               "<p>",
		"&amp;nope; &amp; 1 &lt; 2":                       "&nope; & 1 < 2",
		"&lt;br/>&lt;hr/> ":                               "",
		"&amp;#65;&amp;#x20ac;&amp;#32;":                  "A\u20ac",
		" one <b> two</b>three<c/><!-- four -->\nfive ":   "one twothree five",
		"a<b>b<c>c</c></b><b/>d":                          "abcd",
		"&lt;<b>p></b>x":                                  "x", // cleaned as one text, put together first
		"&amp;am<b>p;</b>":                                "&",
		"1 <b> </b> <b> <c> </c> </b> 2":                  "1 2",
		"\u00c4 <b a='attributes don&apos;t count'>b</b>": "\u00c4 b",
	} {
		l := nodes(t, "<a>ahead<f>"+s+"</f>behind</a>")
		checkField(t, l, 0, "f", want)
		checkAsked(t, l, "f", "b", "c")
		checkItems(t, channel(t, item(guid("g"), field("title", s), field("link", s), field("description", s))), 1, max(len(want), 1),
			api.Item{Guid: "g", Title: want, Link: want, Body: want})
	}
}

func TestItemsThatThereAreNone(t *testing.T) {
	for _, l := range [][]api.Node{channel(t), channel(t, "item"), channel(t, "<title>x</title>"), channel(t, "<Item/><items/><x:item/><entry/>"), channel(t, "<x>"+item(guid("g"))+"</x>")} {
		for _, most := range []int{math.MinInt, -1, 0, 1, math.MaxInt} {
			checkItems(t, l, 0, most)
			checkItems(t, l, 1, most)
			for _, many := range []int{math.MinInt, math.MinInt + 1, -1 << 32, -2, -1} {
				checkFault(t, l, many, most, api.ErrLimit) // even none are more than that
			}
		}
	}
}

func TestItemsOfTheChannelAlone(t *testing.T) {
	odd := "<item/>" // would be an entry without a Guid
	l := nodes(t, "<rss>"+odd+"<channel><x>"+odd+"</x>"+item(guid("1"), "<x>"+odd+"</x>", odd)+"<channel>"+odd+"</channel>"+item(odd, guid("2"))+"</channel><channel>"+odd+item(guid("3"))+"</channel>"+odd+item(guid("4"))+"</rss>")
	checkItems(t, l, 2, 1, api.Item{Guid: "1"}, api.Item{Guid: "2"})
	checkFault(t, l, 1, 1, api.ErrLimit)
}

// An item's fields are its own kids, not those of what stands within it.
func TestFieldsOfWhatStandsWithin(t *testing.T) {
	checkFault(t, channel(t, item("<x>"+guid("1")+"</x>")), 1, lots, api.ErrEntry)
	checkFault(t, channel(t, item(item(guid("1")))), 1, lots, api.ErrEntry)
	checkItems(t, channel(t, item(item(guid("1"), field("pubDate", "x"), field("title", "inner")), guid("2"))), 1, 1, api.Item{Guid: "2"})
	checkItems(t, channel(t, item(guid("2"+item(guid("1"), field("title", "a"))+"b"), "<x><pubDate/></x>")), 1, lots, api.Item{Guid: "21ab"})
	checkItems(t, channel(t, guid("0"), field("title", "of the channel"), field("pubDate", "x"), item(guid("1"))), 1, 1, api.Item{Guid: "1"})
}

// put: sets the entry's text of that number.
func put(x *api.Item, i int, s string) {
	*[]*string{&x.Guid, &x.Title, &x.Link, &x.Body}[i] = s
}

// checkText: an item whose text of that number is written so says want; without a Guid it is none.
func checkText(t *testing.T, i int, written, want string) {
	t.Helper()
	x := api.Item{Guid: "g"}
	rest := guid("g")
	if i == 0 {
		rest = ""
	}
	put(&x, i, want)
	for _, within := range []string{written + rest, rest + written, "<x/>" + rest + "y" + written + "z"} {
		l := channel(t, item(guid("1")), item(within), item(guid("2")))
		if x.Guid == "" {
			checkFault(t, l, 3, lots, api.ErrEntry)
		} else {
			checkItems(t, l, 3, lots, api.Item{Guid: "1"}, x, api.Item{Guid: "2"})
		}
	}
}

func TestEachOfTheTexts(t *testing.T) {
	for i, name := range textNames {
		checkText(t, i, "", "")
		checkText(t, i, "<"+name+"/>", "")
		checkText(t, i, field(name, ""), "")
		checkText(t, i, field(name, "x"), "x")
		checkText(t, i, field(name, " \n\t\u00a0&lt;br> &lt;/p>"), "") // blanks and marks alone
		checkText(t, i, field(name, "x")+field(name, "y"), "x")
		checkText(t, i, field(name, "")+field(name, "y"), "")
		checkText(t, i, field(name, " ")+field(name, "y")+field(name, "z"), "")
		checkText(t, i, field(name, " x <b>&amp;amp;</b>")+"<"+name+"/>", "x &")
		checkText(t, i, field(strings.ToUpper(name), "x"), "")
		checkText(t, i, field("x:"+name, "x")+field(name+"s", "y"), "")
		checkText(t, i, "<x "+name+"='y'/>", "")
		checkText(t, i, field("x", field(name, "y")), "")
	}
	for _, name := range []string{"id", "summary", "content", "content:encoded", "body", "date", "published", "updated", "dc:date", "pubdate"} {
		checkItems(t, channel(t, item(guid("1"), field(name, "x"))), 1, 1, api.Item{Guid: "1"})
		checkFault(t, channel(t, item(field(name, "x"))), 1, 1, api.ErrEntry)
	}
}

func TestDates(t *testing.T) {
	for s, want := range map[string]int{
		stamp:                           seconds,
		"1 Jan 1970 00:00 Z":            0, // dated, too
		"2 Jan 06 10:04 EST":            1136214240,
		"Fri, 31 Dec 9999 23:59:59 GMT": api.MaxDate,
		" \n" + stamp + "\t":            seconds, // the field is cleaned
		"&lt;b>Mon,\n 02 Jan 2006<b>\u00a0\u00a015:04:05 </b>GMT&lt;/b>": seconds,
		"<![CDATA[" + stamp + "]]>":                                      seconds,
		"Mon, 02 Jan 2006 15&amp;#58;04:05 GMT":                          seconds,
		"1<x>1</x> Jan 1970 0<x/>0:00 Z":                                 10 * 86400,
	} {
		one := field("pubDate", s)
		for _, within := range []string{one + guid("g"), guid("g") + one, guid("g") + one + "<pubDate/>", one + guid("g") + field("pubDate", "none"), one + guid("g") + field("pubDate", "1 Jan 2000 00:00 Z")} {
			checkItems(t, channel(t, item(within), item(guid("h"))), 2, 1, api.Item{Guid: "g", Date: want, Dated: true}, api.Item{Guid: "h"})
		}
	}
}

func TestDatesThatAreNone(t *testing.T) {
	for _, s := range []string{"", " ", "&lt;br>", "x", "0", "2006-01-02T15:04:05Z", "2006-01-02 15:04:05Z", "30 Feb 2006 00:00 Z", "31 Dec 1969 23:59:59 GMT", "1 Jan 1970 00:00 +0001",
		"02 jan 2006 15:04:05 GMT", stamp + ".", "x" + stamp, stamp + " " + stamp, "Mon, 02 Jan 2006 15:04:05"} {
		one := field("pubDate", s)
		for _, within := range []string{one + guid("g"), guid("g") + one, guid("g") + one + field("pubDate", stamp)} {
			for _, l := range [][]api.Node{channel(t, item(within)), channel(t, item(within), item(guid("h"))), channel(t, item(guid("h")), item(within))} {
				checkFault(t, l, 2, 1, api.ErrEntry)
				checkFault(t, l, 0, 1, api.ErrLimit)
			}
		}
	}
	checkItems(t, channel(t, item(guid("g"), field("x", field("pubDate", "none")), field("pubdate", "none"), field("PubDate", ""))), 1, 1, api.Item{Guid: "g"})
}

// numbered: n items whose Guids are numbers, and their entries.
func numbered(n int) (string, []api.Item) {
	s := ""
	var l []api.Item
	for i := range n {
		s += item(guid(strconv.Itoa(i))) + "\n"
		l = append(l, api.Item{Guid: strconv.Itoa(i)})
	}
	return s, l
}

func TestHowManyItemsThereMayBe(t *testing.T) {
	for n := range 70 {
		s, want := numbered(n)
		l := channel(t, s)
		for _, many := range []int{n, n + 1, 2*n + 1, 1 << 32, math.MaxInt - 1, math.MaxInt} {
			checkItems(t, l, many, 2, want...)
		}
		for _, many := range []int{math.MinInt, math.MinInt + n, math.MinInt + n + 1, -1 << 32, -1<<32 + n, -n - 1, -1, n / 2, n - 1} {
			if many < n {
				checkFault(t, l, many, 2, api.ErrLimit)
			}
		}
	}
}

func TestHowLongTextsMayBe(t *testing.T) {
	for i, name := range textNames {
		for _, n := range []int{2, 3, 10, 100, 255, 256} {
			x := api.Item{Guid: "g"}
			put(&x, i, strings.Repeat("x", n))
			within := field(name, strings.Repeat("x", n))
			if i > 0 {
				within += guid("g")
			}
			l := channel(t, item(guid("1")), item(within))
			for _, most := range []int{n, n + 1, 2 * n, 1 << 32, math.MaxInt - 1, math.MaxInt} {
				checkItems(t, l, 2, most, api.Item{Guid: "1"}, x)
			}
			for _, most := range []int{math.MinInt, math.MinInt + n, -1 << 32, -1<<32 + n, -n, -1, 0, 1, n - 1} {
				checkFault(t, l, 2, most, api.ErrLimit)
			}
		}
	}
}

func TestTextsThatMayHaveNothing(t *testing.T) {
	l := channel(t, item(field("title", " "), "<link/>", field("description", "&lt;br>")))
	for _, most := range []int{0, 1, math.MaxInt} {
		checkFault(t, l, 1, most, api.ErrEntry)
	}
	for _, most := range []int{math.MinInt, -1} {
		checkFault(t, l, 1, most, api.ErrLimit) // no text has fewer bytes than none
	}
	checkFault(t, channel(t, item(guid("g"))), 1, 0, api.ErrLimit)
}

func TestHowLongAGuidMayBe(t *testing.T) {
	long := strings.Repeat("g", 257)
	for _, n := range []int{1, 2, 255, 256} {
		l := channel(t, item(guid(long[:n])))
		for _, most := range []int{n, 256, 257, 1024, math.MaxInt} {
			checkItems(t, l, 1, most, api.Item{Guid: long[:n]})
		}
	}
	for _, most := range []int{math.MinInt, -1, 0, 255, 256, 257, 258, 512, 513, 1024, 1 << 32, math.MaxInt} {
		checkFault(t, channel(t, item(guid(long))), 1, most, api.ErrLimit)
		checkFault(t, channel(t, item(guid(long+long))), 1, most, api.ErrLimit)
		checkFault(t, channel(t, item(guid("g")), item(guid(long)), item()), 3, most, api.ErrLimit)
	}
	x := api.Item{Guid: "g", Title: long, Link: long + long, Body: long + long + long} // others aren't bound by it
	checkItems(t, channel(t, item(guid(x.Guid), field("title", x.Title), field("link", x.Link), field("description", x.Body))), 1, 771, x)
}

// It is what the cleaned texts have that counts.
func TestLengthsBehindTheCleaning(t *testing.T) {
	for written, want := range map[string]string{
		"  x   y  ":                     "x y",
		"&lt;p class='none'>xyz&lt;/p>": "xyz",
		"&amp;amp;&amp;#65;&amp;quot;":  "&A\"",
		"<x>&#x20ac;</x>":               "\u20ac", // three bytes
		"\u00a0x\u00a0\u00a0y\u00a0":    "x y",
	} {
		for i, name := range textNames {
			x := api.Item{Guid: "g"}
			put(&x, i, want)
			within := field(name, written)
			if i > 0 {
				within += guid("g")
			}
			checkItems(t, channel(t, item(within)), 1, 3, x)
			checkFault(t, channel(t, item(within)), 1, 2, api.ErrLimit)
		}
	}
	blanks := strings.Repeat(" ", 1000)
	checkItems(t, channel(t, item(guid(blanks+strings.Repeat("g", 256)+blanks))), 1, 256, api.Item{Guid: strings.Repeat("g", 256)})
	checkItems(t, channel(t, item(guid(strings.Repeat("&amp;amp;", 256)))), 1, 256, api.Item{Guid: strings.Repeat("&", 256)})
	checkFault(t, channel(t, item(guid(strings.Repeat("&amp;amp;", 257)))), 1, 300, api.ErrLimit)
	checkItems(t, channel(t, item(guid("g"), field("pubDate", blanks+stamp))), 1, 1, api.Item{Guid: "g", Date: seconds, Dated: true}) // a date's own length is none of the texts'
}

// oddItem: an item in which that is wrong, and whether it is short by 3, and what may be.
type oddItem struct {
	s           string
	short, good bool
}

func oddItems() []oddItem {
	l := []oddItem{{item(guid("abc")), true, true}, {item(), true, false}, {item(guid("a"), field("pubDate", "x")), true, false}, {item(field("pubDate", "")), true, false}}
	for i, name := range textNames {
		long := field(name, "long")
		l = append(l, oddItem{item(long, field("pubDate", "x")), false, false})
		if i > 0 {
			l = append(l, oddItem{item(long), false, false}, oddItem{item(long, guid("a")), false, true})
		} else {
			l = append(l, oddItem{item(long), false, true})
		}
	}
	return l
}

// Of several errors that hold at once that one is told which the chapter names first, wherever it stands.
func TestOfSeveralErrorsTheFirst(t *testing.T) {
	for row := range sample.Lists(oddItems(), 3) {
		s, short, good := "", true, true
		for _, x := range row {
			s += x.s
			short, good = short && x.short, good && x.good
		}
		l := channel(t, s)
		want := api.ErrLimit
		switch {
		case short && good:
			checkItems(t, l, len(row), 3, slices.Repeat([]api.Item{{Guid: "abc"}}, len(row))...)
			want = api.OK
		case short:
			want = api.ErrEntry
		}
		if want != api.OK {
			checkFault(t, l, len(row), 3, want)
			checkFault(t, l, lots, 3, want)
		}
		checkFault(t, l, len(row)-1, 3, api.ErrLimit)
		checkFault(t, l, -1, 3, api.ErrLimit)
		checkNoChannel(t, nodes(t, "<rss>"+s+"<x><channel>"+s+"</channel></x></rss>"))
		checkNoChannel(t, nodes(t, "<feed><channel>"+s+"</channel></feed>"))
	}
}

func TestTheEntriesOrder(t *testing.T) {
	s := ""
	var want []api.Item
	for _, m := range sample.Mixed(100) { // neither by their Guids nor by their dates
		name, day := strconv.FormatUint(m, 36), int(m>>20%28)
		s += item(guid(name), field("pubDate", strconv.Itoa(day+1)+" Jan 1970 00:00 Z"))
		want = append(want, api.Item{Guid: name, Date: day * 86400, Dated: true})
	}
	checkItems(t, channel(t, s), 100, 20, want...)
	s = item(guid("a")) + item(guid("b")) + item(guid("a")) // the same again is an entry, too
	checkItems(t, channel(t, s), 3, 20, api.Item{Guid: "a"}, api.Item{Guid: "b"}, api.Item{Guid: "a"})
}

func TestShort(t *testing.T) {
	for i := range textNames {
		for _, n := range []int{0, 1, 2, 100, 255, 256} {
			var x api.Item
			put(&x, i, strings.Repeat("x", n))
			for _, date := range []int{0, 1, -1, 1 << 32, math.MinInt, math.MaxInt} {
				for _, dated := range []bool{false, true} { // both are of no account
					x.Date, x.Dated = date, dated
					for _, most := range []int{n, n + 1, 1024, 1 << 32, math.MaxInt - 1, math.MaxInt} {
						checkShort(t, x, most, true)
					}
					for _, most := range []int{n - 1, -1, -n - 1, -1 << 32, -1<<32 + n, math.MinInt + n, math.MinInt} {
						checkShort(t, x, most, false)
					}
				}
			}
		}
	}
}

func TestShortOfAllTexts(t *testing.T) {
	x := api.Item{Guid: "four", Title: "four", Link: "four", Body: "four"}
	checkShort(t, x, 4, true)
	for i := range textNames {
		one := x
		put(&one, i, "five!")
		checkShort(t, one, 4, false)
		checkShort(t, one, 5, true)
		put(&one, i, "\u20ac\u20ac") // six bytes, two runes
		checkShort(t, one, 5, false)
		checkShort(t, one, 6, true)
		put(&one, i, " <b> ") // they are taken as they are, not cleaned again
		checkShort(t, one, 4, false)
		put(&one, i, "\xff\x00\xff\x00\xff")
		checkShort(t, one, 4, false)
		checkShort(t, one, 5, true)
	}
	checkShort(t, api.Item{}, 0, true)
	checkShort(t, api.Item{}, -1, false)
	checkShort(t, api.Item{}, math.MinInt, false)
}

func TestShortOfGuids(t *testing.T) {
	for _, most := range []int{256, 257, 258, 1024, 1 << 16, 1 << 32, math.MaxInt} {
		checkShort(t, api.Item{Guid: strings.Repeat("g", 256)}, most, true)
		checkShort(t, api.Item{Guid: strings.Repeat("g", 257)}, most, false)
		checkShort(t, api.Item{Guid: strings.Repeat("g", 258)}, most, false)
		checkShort(t, api.Item{Guid: strings.Repeat("g", 1<<16)}, most, false)
	}
	checkShort(t, api.Item{Guid: strings.Repeat("g", 256)}, 255, false)
	long := strings.Repeat("x", 1<<16)
	checkShort(t, api.Item{Guid: "g", Title: long, Link: long, Body: long}, 1<<16, true)
	checkShort(t, api.Item{Guid: "g", Title: long, Link: long, Body: long}, 1<<16-1, false)
}

// A node that is its own parent is no kid of its own.
func TestNodesThatAreTheirOwnParents(t *testing.T) {
	checkItems(t, []api.Node{element(0, "rss"), element(0, "channel"), element(2, "item"), element(1, "item"), element(4, "guid"), element(3, "guid"), words(5, "x"), words(7, "y"), words(4, "z")}, 1, 1, api.Item{Guid: "x"})
	checkFault(t, []api.Node{element(0, "rss"), element(0, "channel"), element(1, "item"), element(3, "guid"), words(3, "x")}, 1, 1, api.ErrEntry)
	checkField(t, []api.Node{element(1, "a"), element(1, "b"), element(1, "b"), words(2, "x"), words(1, "y")}, 1, "b", "x")
	checkNoField(t, []api.Node{element(0, "a"), words(0, "x")}, 0, "a")
}

func TestParentsThatAreNoPlaces(t *testing.T) {
	for _, up := range away(9) {
		l := []api.Node{element(up, "rss"), element(0, "channel"), element(up, "item"), element(1, "item"), element(up, "guid"), words(up, "w"), element(3, "guid"), words(up, "y"), words(6, "x")}
		checkItems(t, l, 1, 1, api.Item{Guid: "x"})
		checkFault(t, l[:6], 1, 1, api.ErrEntry)
		checkAsked(t, l, "item", "guid", "channel")
	}
}

// Nodes in another order than layer 12's: it is the list's order that counts.
func TestParentsBehindTheirKids(t *testing.T) {
	l := []api.Node{element(-1, "rss"), words(4, "1"), element(8, "item"), words(4, "2"), element(2, "guid"), words(7, "3"), element(8, "item"), element(6, "guid"), element(0, "channel"), element(6, "guid"), words(9, "none"), words(7, "4")}
	checkChannel(t, l, 8)
	checkItems(t, l, 2, 2, api.Item{Guid: "12"}, api.Item{Guid: "34"})
	slices.Reverse(l[9:])
	for i := range l {
		if l[i].Up == 9 {
			l[i].Up = 11
		}
	}
	checkItems(t, l, 2, 2, api.Item{Guid: "12"}, api.Item{Guid: "34"})
	checkAsked(t, l, "item", "guid")
}

// The channel stands within the Guid of its own first item, and all items with it.
func TestRings(t *testing.T) {
	l := []api.Node{element(3, "rss"), element(0, "channel"), element(1, "item"), element(2, "guid"), words(3, "a"), element(1, "item"), element(5, "guid"), words(6, "b"), words(0, "c"), words(1, "d"), words(2, "e"), words(5, "f")}
	checkItems(t, l, 2, 6, api.Item{Guid: "abcdef"}, api.Item{Guid: "b"})
	checkFault(t, l, 2, 5, api.ErrLimit)
	checkAsked(t, l, "item", "guid", "channel")
	for _, up := range []int{6, 7} { // of the second one
		l[0].Up = up
		checkItems(t, l, 2, 6, api.Item{Guid: "a"}, api.Item{Guid: "abcdef"})
	}
	l[0].Up = 5 // of the second item, but not of its Guid
	checkItems(t, l, 2, 1, api.Item{Guid: "a"}, api.Item{Guid: "b"})
	for _, up := range []int{0, 1, 8, 9, 11} {
		l[0].Up = up
		checkItems(t, l, 2, 1, api.Item{Guid: "a"}, api.Item{Guid: "b"})
	}
	l = append(l, element(13, "x"), element(12, "y"), words(12, "z"), element(15, "guid"), element(15, "item")) // a ring beside it, and a row that leads nowhere
	checkItems(t, l, 2, 1, api.Item{Guid: "a"}, api.Item{Guid: "b"})
	checkAsked(t, l, "item", "guid", "x", "y")
}

// Nodes that have both a name and a text, or kids and no name, as no tree has them.
func TestOddNodes(t *testing.T) {
	l := []api.Node{{Name: "rss", Text: "1", Up: -1}, {Name: "channel", Text: "2", Up: 0}, {Name: "item", Text: "3", Up: 1}, {Name: "guid", Text: "4", Up: 2, Attrs: []api.Attr{{Name: "guid", Value: "5"}}},
		words(3, "6"), {Up: 2}, {Name: "title", Up: 5}, words(6, "7"), words(4, "8"), element(4, "link"), words(9, "9"), {Text: "guid", Up: 2}}
	checkItems(t, l, 1, 3, api.Item{Guid: "689"})
	checkField(t, l, 5, "title", "7")
	checkField(t, l, 4, "link", "9")
	checkAsked(t, l, "item", "guid", "title", "link", "")
	for _, name := range []string{"\xff\x00", "a b", strings.Repeat("n", 1000)} {
		checkField(t, []api.Node{element(-1, "a"), element(0, name), words(1, " \xff\x00 ")}, 0, name, "\xff\x00")
	}
}

func TestAllShortListsOfNodes(t *testing.T) {
	const most = 3
	head := []api.Node{element(-1, "rss"), element(0, "channel"), element(1, "item")}
	var parts []api.Node
	for up := -1; up < len(head)+most; up++ {
		parts = append(parts, words(up, ""), element(up, "guid"), element(up, "item"))
	}
	for rest := range sample.Lists(parts, most) {
		for up := -1; up < len(head)+len(rest); up++ {
			l := slices.Concat(head, rest)
			l[0].Up = up
			for i := range l {
				l[i].Text = strconv.Itoa(i)
			}
			checkAlike(t, l, 2, 2)
		}
		if t.Failed() {
			return
		}
	}
}

// mixedNodes: n nodes of documents, by mixed numbers: mostly such as hang together, but for those that loose says.
func mixedNodes(n int, mixed []uint64, loose uint64) []api.Node {
	l := []api.Node{element(-1, "rss"), element(0, "channel")}
	texts := []string{"x", "y ", " <b>", "&amp;", "a&#98;c", stamp, "1 Jan 70 00:00 Z", ""}
	for i := range n {
		m := mixed[i%len(mixed)]
		x := []api.Node{words(0, texts[m>>8%8]), words(0, texts[m>>8%4]), element(1, "item"), element(0, "guid"), element(0, "guid"), element(0, textNames[m>>8%4]), element(0, "pubDate"), element(0, "x")}[m>>16%8]
		if x.Name != "item" {
			x.Up = len(l) - 1 - int(m>>24%3) // mostly right behind its parent
		}
		if m>>32%64 < loose {
			x.Up = int(m>>40%uint64(n+4)) - 1
		}
		l = append(l, x)
	}
	if m := mixed[0] >> 7; m%64 < loose {
		l[0].Up = int(m >> 8 % uint64(len(l)+1))
	}
	return l
}

func TestMixedLists(t *testing.T) {
	mixed := sample.Mixed(60000)
	for turn := range 3000 {
		l := mixedNodes(turn/60, mixed[turn*19:], uint64(turn%64))
		for _, most := range []int{-1, 0, 3, 30, lots} {
			for _, many := range []int{1, 3, lots} {
				checkAlike(t, l, many, most)
			}
		}
		if turn%10 == 0 {
			checkAsked(t, l, append(slices.Clone(textNames), "pubDate", "item", "x", "")...)
		}
		if t.Failed() {
			return
		}
	}
}

// Documents whose items are right ones, but for one or another.
func TestMixedDocuments(t *testing.T) {
	within := []string{guid("g"), guid("a b"), field("title", "The &amp;lt;title&amp;gt;"), field("link", "http://a/?b&amp;amp;c"), field("description", "<![CDATA[<p>It is <b>so</b>]]>"), field("pubDate", stamp), "<x/>", " "}
	odd := []string{guid(""), "<pubDate/>", field("x", guid("y")), "</item><item>", "</item><x/><item>", "</item></channel><channel><item>"}
	for i, s := range sample.Texts(append(slices.Repeat(within, 6), odd...), 4000, 40) {
		l := channel(t, item(guid(strconv.Itoa(i)), s))
		checkAlike(t, l, lots, lots)
		checkAlike(t, l, i%6, i%25)
		if t.Failed() {
			return
		}
	}
}

// What is read by some limits is read alike by any greater ones; by lesser ones it is read so, or not at all, for its limits alone.
func TestWhatIsReadByGreaterLimits(t *testing.T) {
	mixed := sample.Mixed(4000)
	for turn := range 200 {
		l := mixedNodes(turn/5, mixed[turn*19:], 2)
		want, all := rss.Items(l, math.MaxInt, math.MaxInt)
		if errors.Is(all, api.ErrLimit) { // a long Guid: by none is it read
			continue
		}
		for many := -1; many < 12; many++ {
			read := false
			for most := -1; most < 70; most++ {
				got, err := rss.Items(l, many, most)
				if errors.Is(err, api.ErrLimit) {
					if read {
						t.Errorf("Items(%v, %d, %d): %v, but by less it was read", l, many, most, err)
					}
					continue
				}
				read = true
				if (err == nil) != (all == nil) || !slices.Equal(got, want) {
					t.Errorf("Items(%v, %d, %d): %v, %v, not %v, %v", l, many, most, got, err, want, all)
				}
			}
		}
	}
}

// given: nodes of documents that are read, and of some that aren't, with spare room, and attributes that have some.
func given(t *testing.T) [][]api.Node {
	t.Helper()
	s := field("title", "x") + item(guid("a"), field("title", "one"), field("link", " two "), field("description", "t<b>h</b>ree"), field("pubDate", stamp)) + item(guid("b"))
	var l [][]api.Node
	for _, more := range []string{"", item(), item(guid(strings.Repeat("g", 300))), item(guid("c"), "<pubDate/>")} {
		l = append(l, channel(t, s, more))
	}
	l = append(l, nodes(t, "<rss>"+s+"</rss>"), channel(t))
	for k := range l {
		l[k] = sample.Roomy(l[k], words(0, "spare"))
		for i := range l[k] {
			l[k][i].Attrs = sample.Roomy([]api.Attr{{Name: "a", Value: "b"}}, api.Attr{Name: "spare", Value: "c"})
		}
	}
	return l
}

func TestNodesAreNotChanged(t *testing.T) {
	for _, l := range given(t) {
		before := sample.CopyNodes(l)
		for _, n := range []int{math.MinInt, -1, 0, 1, 2, 3, 300, math.MaxInt} {
			for _, items := range [][]api.Item{first(rss.Items(l, n, lots)), first(rss.Items(l, lots, n)), first(rss.Items(l, n, n))} {
				for i := range items[:cap(items)] {
					items[:cap(items)][i] = api.Item{Guid: "spoilt"}
				}
			}
			rss.Field(l, n, "guid")
			rss.Field(l, 3, "guid")
			rss.Channel(l)
			if !sample.SameNodes(sample.CopyNodes(l), before) {
				t.Fatalf("changed: %v, not %v", l[:cap(l)], before)
			}
		}
	}
}

// first: the first of two.
func first[A, B any](a A, _ B) A { return a }

func TestAnswersDoNotTurn(t *testing.T) {
	l := given(t)[0]
	want := []api.Item{{Guid: "a", Title: "one", Link: "two", Body: "three", Date: seconds, Dated: true}, {Guid: "b"}}
	items := first(rss.Items(l, 2, 10))
	other := first(rss.Items(l, 2, 10))
	title, _ := rss.Field(l, 1, "title")
	sample.SpoilNodes(l)
	for i := range other[:cap(other)] {
		other[:cap(other)][i] = api.Item{Guid: "spoilt"}
	}
	if !slices.Equal(items, want) || title != "x" {
		t.Errorf("turned: %v, %q", items, title)
	}
}

// Each fault is a new one.
func TestFaultsShareNothing(t *testing.T) {
	for _, row := range []struct {
		l    []api.Node
		most int
		want api.Code
	}{{nil, 9, api.ErrFormat}, {channel(t, item(guid("a"))), 0, api.ErrLimit}, {channel(t, item(guid("a")), item()), 9, api.ErrEntry}, {channel(t, item(guid("a"), "<pubDate/>")), 9, api.ErrEntry}} {
		_, err := rss.Items(row.l, 9, row.most)
		var f *api.Fault
		if errors.As(err, &f) {
			f.At, f.Err = 7, api.ErrLong
		}
		checkFault(t, row.l, 9, row.most, row.want)
		checkFault(t, channel(t, item(guid("a"))), 0, 9, api.ErrLimit)
	}
}

func TestNothingIsKept(t *testing.T) {
	l := given(t)[0]
	want := first(rss.Items(l, 2, 10))
	for i, m := range sample.Mixed(300) {
		other := mixedNodes(i%30, []uint64{m, m >> 3, m >> 7}, m%8)
		rss.Items(other, int(m>>20%4), int(m>>30%40))
		rss.Field(other, int(m>>20%8), "guid")
		checkItems(t, l, 2, 10, want...)
	}
}

// many: how many nodes there are in long lists.
const many = 1 << 16

func TestManyItems(t *testing.T) {
	l := []api.Node{element(-1, "rss"), element(0, "channel")}
	for len(l) < many {
		l = append(l, element(1, "item"))
	}
	checkFault(t, l, many-2, lots, api.ErrEntry)
	checkFault(t, l, many-3, lots, api.ErrLimit)
	checkFault(t, l, many, -1, api.ErrLimit)

	l = l[:2]
	var want []api.Item
	for len(l)+3 <= many {
		name := strconv.Itoa(len(want))
		l = append(l, element(1, "item"), element(len(l), "guid"), words(len(l)+1, name))
		want = append(want, api.Item{Guid: name})
	}
	checkItems(t, l, len(want), 5, want...)
	checkFault(t, l, len(want)-1, 5, api.ErrLimit)
	checkFault(t, l, len(want), 4, api.ErrLimit)
	checkFault(t, l[:len(l)-1], len(want), 5, api.ErrEntry)

	mid := len(want) / 2
	l[2+3*mid+1].Name = "x" // its Guid is none any more
	checkFault(t, l, len(want), 5, api.ErrEntry)
	l[2+3*mid].Name = "x" // nor is it an item
	checkItems(t, l, len(want)-1, 5, slices.Delete(slices.Clone(want), mid, mid+1)...)
}

// Items whose fields stand far behind all of them, in another order.
func TestManyItemsWithFieldsFarBehind(t *testing.T) {
	const n = many / 8
	l := []api.Node{element(-1, "rss"), element(0, "channel")}
	var want []api.Item
	for i := range n {
		l = append(l, element(1, "item"))
		want = append(want, api.Item{Guid: strconv.Itoa(i), Body: "b" + strconv.Itoa(i), Dated: true})
	}
	for i := n - 1; i >= 0; i-- {
		l = append(l, element(2+i, "guid"), words(len(l), want[i].Guid), element(2+i, "description"), words(len(l)+2, want[i].Body), element(2+i, "pubDate"), words(len(l)+4, "1 Jan 1970 00:00 Z"))
	}
	checkItems(t, l, n, 6, want...)
}

func TestOneItemOfManyKids(t *testing.T) {
	l := []api.Node{element(-1, "rss"), element(0, "channel"), element(1, "item"), element(2, "title")}
	for len(l) < many-2 {
		l = append(l, element(2, []string{"title", "x", ""}[len(l)%3]))
	}
	checkFault(t, l, 1, lots, api.ErrEntry)
	l = append(l, element(2, "guid"), words(len(l), "g"))
	checkItems(t, l, 1, 1, api.Item{Guid: "g"})
	checkFault(t, l, 1, 0, api.ErrLimit)

	l = append(l[:3], element(2, "guid"), words(3, "g"), element(2, "description"))
	for len(l) < many {
		l = append(l, words(5, "x"))
	}
	checkItems(t, l, 1, many-6, api.Item{Guid: "g", Body: strings.Repeat("x", many-6)})
	checkFault(t, l, 1, many-7, api.ErrLimit)
	l[5].Name = "guid" // the second one
	checkItems(t, l, 1, 1, api.Item{Guid: "g"})
	l[3].Name = "x"
	checkFault(t, l, 1, many, api.ErrLimit)
}

func TestManyElementsInOneAnother(t *testing.T) {
	for _, name := range []string{"x", "item", "guid", "channel", "rss", "title"} {
		l := []api.Node{element(-1, "rss"), element(0, "channel"), element(1, "item"), element(2, "guid")}
		for len(l) < many-1 {
			l = append(l, element(len(l)-1, name))
		}
		l = append(l, words(len(l)-1, "g"))
		checkItems(t, l, 1, 1, api.Item{Guid: "g"})
		checkFault(t, l, 0, 1, api.ErrLimit)
		checkFault(t, l[:many-1], 1, 1, api.ErrEntry)

		l = []api.Node{element(-1, "rss")}
		for len(l) < many {
			l = append(l, element(len(l)-1, name))
		}
		if name != "channel" {
			checkNoChannel(t, l)
		} else {
			checkItems(t, l, 0, 0)
		}
	}
}

// turned: a list in which the nodes behind the head stand the other way round.
func turned(l []api.Node, head int) []api.Node {
	to := func(at int) int {
		if at < head || at >= len(l) {
			return at
		}
		return head + len(l) - 1 - at
	}
	c := slices.Clone(l)
	for at, x := range l {
		x.Up = to(x.Up)
		c[to(at)] = x
	}
	return c
}

// TestTimeGrowsAsTheList: lists so long that a walk of its own through all for each item, or up from each node, would not come to its end within a test.
func TestTimeGrowsAsTheList(t *testing.T) {
	const n = 1 << 19
	l := []api.Node{element(-1, "rss"), element(0, "channel")}
	var want []api.Item
	for len(l)+4 <= n {
		l = append(l, element(1, "item"), element(len(l), "guid"), words(len(l)+1, "g"), words(len(l)+1, "h"))
		want = append(want, api.Item{Guid: "gh"})
	}
	checkItems(t, l, len(want), 2, want...)
	for i := range want {
		want[i].Guid = "hg"
	}
	checkItems(t, turned(l, 2), len(want), 2, want...)

	deep := l[:4:4]
	for len(deep) < n-1 {
		deep = append(deep, element(len(deep)-1, "x"))
	}
	deep = append(deep, words(len(deep)-1, "g"))
	checkItems(t, deep, 1, 1, api.Item{Guid: "g"})
	checkItems(t, turned(deep, 2), 1, 1, api.Item{Guid: "g"})
	deep[0].Up = n - 1 // a ring of all
	checkItems(t, deep, 1, 1, api.Item{Guid: "g"})
	checkItems(t, turned(deep, 2), 1, 1, api.Item{Guid: "g"})
}

// Each byte is a node; numbers are limits.
func FuzzRss(f *testing.F) {
	f.Add([]byte{0, 1, 2, 3}, uint64(0), 1, 1)
	f.Add([]byte{7, 8, 77, 200, 13, 255, 34, 91}, uint64(3), 2, 30)
	f.Fuzz(func(t *testing.T, b []byte, loose uint64, many, most int) {
		var mixed []uint64
		for i, m := range sample.Mixed(min(len(b), 60)) {
			mixed = append(mixed, m^uint64(b[i])*0x0101010101010101)
		}
		mixed = append(mixed, loose)
		l := mixedNodes(len(mixed), mixed, loose%64)
		checkAlike(t, l, many, most)
		checkAlike(t, l, lots, most)
		checkAlike(t, l, many, lots)
		checkAlike(t, l, lots, lots)
		checkAsked(t, l, "guid", "item", "x")
	})
}
