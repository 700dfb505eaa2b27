package feed_test

import (
	"errors"
	"math"
	"slices"
	"strconv"
	"strings"
	"testing"
	"unsafe"

	"newsreel/api"
	"newsreel/feed"
	"newsreel/lex"
	"newsreel/sample"
)

var markup, repeat = sample.Markup, strings.Repeat

// kind is one of the kinds of documents.
type kind struct {
	around []string  // the names of the elements that the entries stand within
	name   string    // that of an entry's
	texts  [4]string // those of the four texts; none, if a link's attribute tells it
	date   string    // an entry's date: 0
}

var (
	rssKind  = kind{[]string{"rss", "channel"}, "item", [4]string{"guid", "title", "link", "description"}, "<pubDate>1 Jan 1970 00:00 Z</pubDate>"}
	atomKind = kind{[]string{"feed"}, "entry", [4]string{"id", "title", "", "summary"}, "<updated>1970-01-01T00:00:00Z</updated>"}
	kinds    = []kind{rssKind, atomKind}
)

// doc: a document that has that where its entries stand.
func (k kind) doc(within ...string) string {
	s := strings.Join(within, "")
	for _, name := range slices.Backward(k.around) {
		s = markup(name, s)
	}
	return s
}

// text: an entry's text of that number.
func (k kind) text(i int, s string) string {
	if k.texts[i] == "" {
		return `<link href="` + s + `"/>`
	}
	return markup(k.texts[i], s)
}

// entry: one of that Guid that has that within, too.
func (k kind) entry(guid string, more ...string) string {
	return markup(k.name, k.text(0, guid), k.date, strings.Join(more, ""))
}

// item: what is read of an entry that has a Guid alone.
func item(guid string) api.Item { return api.Item{Guid: guid, Dated: true} }

// nest: an element that has so many ones within one another, itself among them.
func nest(n int) string {
	return repeat("<x>", n) + repeat("</x>", n)
}

// none: numbers that are no number of documents whose greatest is most, the ends of their type among them, and some whose low bits alone would be one.
func none(most int) []int {
	return []int{math.MinInt, math.MinInt + 1, -1 << 32, -1<<32 + 1, -1 << 31, -most - 1, -most, -2, -1, 0, most + 1, most + 2, 2*most + 1, 1<<31 - 1, 1 << 31, 1 << 32, 1<<32 + 1, 1<<32 + most, math.MaxInt - 1, math.MaxInt}
}

// others: p with other numbers that aren't a document's, all of them that one, or one of them.
func others(p api.Params, n int) []api.Params {
	l := []api.Params{p, {Entries: n, Doc: p.Doc, Depth: p.Depth, Feeds: n, DocEntries: p.DocEntries, Field: p.Field, Page: n, Tick: n, Window: n, Distance: n, Words: n}}
	for i := range 7 {
		one := p
		*[]*int{&one.Entries, &one.Feeds, &one.Page, &one.Tick, &one.Window, &one.Distance, &one.Words}[i] = n
		l = append(l, one)
	}
	return l
}

func checkCheck(t *testing.T, p api.Params, want bool) {
	t.Helper()
	if got := feed.Check(p); got != want {
		t.Errorf("Check(%+v): %v", p, got)
	}
}

func TestCheckOfEachNumber(t *testing.T) {
	for i, most := range bounds {
		for n := -most - 10; n <= 2*most+10; n++ {
			checkCheck(t, put(greatest(), i, n), n >= 1 && n <= most)
		}
		for _, n := range none(most) {
			checkCheck(t, put(greatest(), i, n), false)
			checkCheck(t, put(api.Params{Doc: 1, Depth: 1, DocEntries: 1, Field: 1}, i, n), false)
		}
	}
	checkCheck(t, api.Params{}, false)
	checkCheck(t, greatest(), true)
	checkCheck(t, api.Params{Doc: 1, Depth: 1, DocEntries: 1, Field: 1}, true)
	for _, n := range []int{2, 64, 65, 1024, 1025, 65536, 65537} {
		checkCheck(t, api.Params{Doc: n, Depth: n, DocEntries: n, Field: n}, n <= 64)
	}
}

func TestCheckOfAllNumbers(t *testing.T) {
	for row := range sample.Lists([]int{math.MinInt, -1, 0, 1, 64, 65, 1024, 1025, 65536, 65537, math.MaxInt}, 4) {
		if len(row) < 4 {
			continue
		}
		p, good := api.Params{}, true
		for i, n := range row {
			p = put(p, i, n)
			good = good && n > 0 && n <= bounds[i]
		}
		checkCheck(t, p, good)
	}
}

func TestOtherNumbersAreOfNoAccount(t *testing.T) {
	for _, n := range append(none(64), 1, 2, 16, 64) {
		for _, p := range others(greatest(), n) {
			checkCheck(t, p, true)
			for _, k := range kinds {
				checkItems(t, k.doc(k.entry("g")), p, item("g"))
			}
			checkFault(t, "<html/>", p, api.ErrFormat)
		}
		for i := range bounds {
			for _, p := range others(put(greatest(), i, 0), n) {
				checkCheck(t, p, false)
				checkFault(t, rssKind.doc(), p, api.ErrArg)
			}
		}
	}
}

func TestTheChaptersExamples(t *testing.T) {
	checkFault(t, "<html/>", greatest(), api.ErrFormat)
	checkFault(t, "<html><body>feed</body></html>", greatest(), api.ErrFormat)
	for _, k := range kinds {
		s := k.doc(k.entry("g", k.text(1, "x &amp; y")))
		for n := range s {
			checkFault(t, s[:n], greatest(), api.ErrSyntax)
		}
	}
}

func TestWholeDocuments(t *testing.T) {
	checkItems(t, `<?xml version="1.0"?>
<rss version="2.0"><channel><title>News of the coast</title>
<item><guid>1</guid><title>Storm hits the coast</title><link>http://a/1</link><description><![CDATA[<p>It was <b>loud</b>.]]></description><pubDate>Mon, 02 Jan 2006 15:04:05 GMT</pubDate></item>
<item><title>Cat found</title><guid>2</guid></item>
</channel></rss>
`, greatest(), api.Item{Guid: "1", Title: "Storm hits the coast", Link: "http://a/1", Body: "It was loud .", Date: 1136214245, Dated: true}, api.Item{Guid: "2", Title: "Cat found"})
	checkItems(t, "\ufeff"+`<?xml version="1.0"?><!-- of b -->
<feed xmlns="http://www.w3.org/2005/Atom"><title>News of the coast</title><id>f</id>
<entry><id>1</id><title>storm hits THE coast</title><link rel="self" href="http://b/x"/><link href="http://b/1?a&amp;amp;b"/><content>Fish &amp;amp; chips</content><updated>2006-01-02T15:04:05Z</updated></entry>
<entry><published>1970-01-01T00:00:01Z</published><id> 2 </id><summary/></entry>
</feed>
`, greatest(), api.Item{Guid: "1", Title: "storm hits THE coast", Link: "http://b/1?a&b", Body: "Fish & chips", Date: 1136214245, Dated: true}, api.Item{Guid: "2", Date: 1, Dated: true})
}

// texts: some of which much is wrong, some of which nothing is.
func texts() []string {
	return []string{"", "x", "<", "<a/>", "<a>", "<html/>", "<feed/>", "<rss/>", rssKind.doc(), atomKind.doc(atomKind.entry("g")), rssKind.doc(repeat(rssKind.entry(""), 70)), nest(70), repeat("x", 65537), repeat(" ", 1<<17) + "<feed/>", "\xff"}
}

func TestNumbersThatMayNotBe(t *testing.T) {
	for _, s := range texts() {
		for i, most := range bounds {
			for _, n := range none(most) {
				checkFault(t, s, put(greatest(), i, n), api.ErrArg)
				checkFault(t, s, put(api.Params{Doc: 1, Depth: 1, DocEntries: 1, Field: 1}, i, n), api.ErrArg)
				checkFault(t, s, put(api.Params{}, i, n), api.ErrArg)
			}
		}
		checkFault(t, s, api.Params{}, api.ErrArg)
	}
}

func TestTheLeastNumbers(t *testing.T) {
	one := api.Params{Doc: 1, Depth: 1, DocEntries: 1, Field: 1}
	checkFault(t, "", one, api.ErrSyntax)
	checkFault(t, "x", one, api.ErrSyntax)
	checkFault(t, "<feed/>", one, api.ErrLong)
	one.Doc = 1000
	checkItems(t, "<feed/>", one)
	checkFault(t, "<rss/>", one, api.ErrFormat)
	checkFault(t, rssKind.doc(), one, api.ErrDepth)
	checkFault(t, atomKind.doc("<x/>"), one, api.ErrDepth)
	one.Depth = 4
	for _, k := range kinds {
		checkItems(t, k.doc(k.entry("g")), one, item("g"))
		checkFault(t, k.doc(k.entry("g")+k.entry("h")), one, api.ErrLimit)
		checkFault(t, k.doc(k.entry("gh")), one, api.ErrLimit)
		checkFault(t, k.doc(k.entry("")), one, api.ErrEntry)
	}
}

func TestNoText(t *testing.T) {
	for _, s := range []string{"", " ", "\n", "\ufeff", "<!---->", "<?xml ?>"} {
		for _, depth := range []int{1, 64} {
			checkFault(t, s, put(greatest(), 1, depth), api.ErrSyntax)
		}
	}
}

// A document's bytes count, whatever they are, and not its runes.
func TestHowLongADocumentMayBe(t *testing.T) {
	for _, k := range kinds {
		for _, within := range []string{"", "\u20ac\U0001f600", "<!--" + repeat("\u00e4", 50) + "-->", repeat(" ", 1000), "&#65;"} {
			doc := k.doc(k.entry("g"), within)
			for _, s := range []string{doc, "\ufeff" + doc, " \n" + doc, doc + "\t\r", doc + repeat(" ", 300), doc + "<!--\u20ac-->"} {
				for _, n := range []int{len(s), len(s) + 1, 2 * len(s), 65535, 65536} {
					checkItems(t, s, put(greatest(), 0, n), item("g"))
				}
				for _, n := range []int{1, 2, len(doc) / 2, len([]rune(s)) - 1, len(s) - 2, len(s) - 1} {
					checkFault(t, s, put(greatest(), 0, n), api.ErrLong)
				}
			}
		}
	}
}

func TestTooLongAndNoDocument(t *testing.T) {
	for _, part := range []string{"x", "<", "<a>", "</a>", "<html/>", "<feed>", "<rss>", "&", "\x00", "\xff", "\u20ac", " "} {
		for n := 1; n < 100; n++ {
			s := repeat(part, n)
			for _, less := range []int{1, 2, len(s) / 2, len(s) - 1} {
				if less > 0 && less < len(s) {
					checkFault(t, s, put(greatest(), 0, len(s)-less), api.ErrLong)
				}
			}
			checkAlike(t, s, put(greatest(), 0, len(s)))
			checkAlike(t, s, put(put(greatest(), 0, len(s)), 1, 1))
		}
		checkFault(t, repeat(part, 65537), greatest(), api.ErrLong)
		checkFault(t, repeat(part, 1<<18), greatest(), api.ErrLong)
		checkFault(t, repeat(part, 1<<18), put(greatest(), 0, 1), api.ErrLong)
	}
}

func TestHowDeepADocumentMayBe(t *testing.T) {
	for depth := 3; depth <= 64; depth++ {
		p := put(greatest(), 1, depth)
		for _, s := range []string{"<feed>" + nest(depth-1) + "</feed>", "<rss><channel/>" + nest(depth-1) + "</rss>", "<rss><channel>" + nest(depth-2) + "</channel></rss>", "<feed>" + repeat(nest(depth-1), 5) + "</feed>"} {
			checkItems(t, s, p)
			checkItems(t, s, greatest())
			checkFault(t, s, put(p, 1, depth-1), api.ErrDepth)
			checkFault(t, s, put(p, 1, 1), api.ErrDepth)
			checkFault(t, s+"<", put(p, 1, depth-1), api.ErrDepth) // where it is too deep stands ahead of the other fault
			checkFault(t, s+"<", p, api.ErrSyntax)
			checkFault(t, "<>"+s, put(p, 1, 1), api.ErrSyntax)
		}
		for _, s := range []string{"<html>" + nest(depth-1) + "</html>", nest(depth), "<rss>" + nest(depth-1) + "</rss>", "<Feed>" + nest(depth-1) + "</Feed>"} { // also where it is no feed
			checkFault(t, s, p, api.ErrFormat)
			checkFault(t, s, put(p, 1, depth-1), api.ErrDepth)
		}
		for _, open := range []string{"<feed>", "<html>", "<rss>"} {
			checkFault(t, open+repeat("<x>", depth-1), p, api.ErrSyntax)
			if f := checkFault(t, open+repeat("<x>", depth), p, api.ErrDepth); f != nil && f.At != len(open)+3*(depth-1) {
				t.Errorf("%s and %d more: at %d", open, depth, f.At)
			}
		}
	}
	for _, k := range kinds {
		checkFault(t, k.doc(k.entry("g", nest(64))), greatest(), api.ErrDepth)
	}
}

func TestPlacesOfFaults(t *testing.T) {
	for s, want := range map[string]int{"x": 0, "<feed>": 6, "<feed></fee>": 8, "<feed/><feed/>": 7, "<feed>&nope;</feed>": 6, "<feed>ab\xff</feed>": 8, "<a><b x='1' x='2'/></a>": 12} {
		if f := checkFault(t, s, greatest(), api.ErrSyntax); f != nil && f.At != want {
			t.Errorf("Parse(%q): at %d, not %d", s, f.At, want)
		}
	}
	for _, s := range []string{"<html>x</html>", " <!-- --><rss/>", rssKind.doc(rssKind.entry("")), atomKind.doc(atomKind.entry("")), "\n" + rssKind.doc(repeat(rssKind.entry("a"), 65))} {
		_, wrong := plain(s, greatest())
		if f := checkFault(t, s, greatest(), feed.Code(wrong[0])); f != nil && f.At != 0 {
			t.Errorf("Parse(%.200q): at %d, of no place", s, f.At)
		}
	}
}

// root: a document whose root has that name, with entries of both kinds, each where its kind would look for it.
func root(name string) string {
	return markup(name, atomKind.entry("atom"), markup("channel", rssKind.entry("rss"), atomKind.entry("x")), rssKind.entry("x"))
}

func TestRoots(t *testing.T) {
	checkItems(t, root("feed"), greatest(), item("atom"))
	checkItems(t, root("rss"), greatest(), item("rss"))
	for _, name := range []string{"Feed", "FEED", "feeD", "fee", "fed", "eed", "f", "feeds", "xfeed", "afeed", "feedx", "feed1", "feed-", "feed.", "feed_", "_feed", ":feed", "feed:", "atom:feed", "feed:rss", "rss:feed", "rss-feed", "feedfeed", "feed.rss",
		"RSS", "Rss", "rs", "rss1", "xrss", "rss:rss", "RDF", "html", "channel", "item", "entry", "atom", "x"} {
		checkFault(t, root(name), greatest(), api.ErrFormat)
		checkFault(t, "<"+name+"/>", greatest(), api.ErrFormat)
	}
	for _, head := range []string{"\ufeff", "<?xml feed?>", "<?xml <rss> ?>", "<!--feed-->", " <!-- <rss> --> <!--<feed/>-->\n", "\n"} { // whatever stands ahead of the root
		checkItems(t, head+root("feed"), greatest(), item("atom"))
		checkItems(t, head+root("rss")+"<!-- <feed> -->", greatest(), item("rss"))
		checkFault(t, head+root("html"), greatest(), api.ErrFormat)
	}
	checkItems(t, "<feed rss='rss'/>", greatest())
	checkItems(t, "<feed rss='rss'></feed >", greatest())
	checkItems(t, "<rss feed='feed'><channel feed='feed'/></rss>", greatest())
	checkFault(t, "<x feed='feed' rss='rss'>feed</x>", greatest(), api.ErrFormat)
}

func TestRootsWithinOneAnother(t *testing.T) {
	checkFault(t, markup("rss", root("feed")), greatest(), api.ErrFormat) // there is no channel
	checkItems(t, markup("feed", root("rss")), greatest())
	checkItems(t, markup("rss", root("feed"), "<channel/>"), greatest())
	checkItems(t, markup("rss", markup("channel", root("feed"), rssKind.entry("g"))), greatest(), item("g"))
	checkItems(t, markup("feed", root("rss"), atomKind.entry("g")), greatest(), item("g"))
	checkItems(t, markup("feed", root("feed")), greatest())
	checkFault(t, markup("rss", root("rss")), greatest(), api.ErrFormat)
	for _, name := range []string{"feed", "rss"} {
		checkFault(t, markup("html", root(name)), greatest(), api.ErrFormat)
		checkFault(t, root(name)+root(name), greatest(), api.ErrSyntax) // there is one root
		checkFault(t, root(name)+root("html"), greatest(), api.ErrSyntax)
		checkFault(t, root("html")+root(name), greatest(), api.ErrSyntax)
	}
	checkItems(t, "<feed><channel/></feed>", greatest())
	checkFault(t, "<rss><entry/></rss>", greatest(), api.ErrFormat)
	checkFault(t, "<channel><item/></channel>", greatest(), api.ErrFormat)
}

func TestHowManyEntriesADocumentMayHave(t *testing.T) {
	for _, k := range kinds {
		s := ""
		var want []api.Item
		for n := range 67 {
			for _, most := range []int{1, 2, n / 2, n - 1, n, n + 1, 63, 64} {
				p := put(greatest(), 2, most)
				switch {
				case most < 1 || most > 64:
					checkFault(t, k.doc(s), p, api.ErrArg)
				case most < n:
					checkFault(t, k.doc(s), p, api.ErrLimit)
				default:
					checkItems(t, k.doc(s), p, want...)
				}
			}
			s += k.entry(strconv.Itoa(n)) + "<x/>\n"
			want = append(want, item(strconv.Itoa(n)))
		}
	}
}

func TestHowLongTextsMayBe(t *testing.T) {
	for _, k := range kinds {
		for i := range k.texts {
			for _, n := range []int{1, 2, 3, 100, 255, 256, 1023, 1024, 1025} {
				if i == 0 && n > 256 {
					checkFault(t, k.doc(k.entry(repeat("g", n))), greatest(), api.ErrLimit) // Guids have a bound of their own
					continue
				}
				x := item("g")
				sample.Put(&x, i, repeat("g", n))
				s := k.doc(k.entry("g", k.text(i, "  "+repeat("g", n)+"\n")))
				if i == 0 {
					s = k.doc(k.entry(repeat("g", n)))
				}
				for _, most := range []int{n / 2, n - 1, n, n + 1, 1023, 1024} {
					p := put(greatest(), 3, most)
					switch {
					case most < 1 || most > 1024:
						checkFault(t, s, p, api.ErrArg)
					case most < n:
						checkFault(t, s, p, api.ErrLimit)
					default:
						checkItems(t, s, p, x)
					}
				}
			}
		}
	}
}

func TestEntriesThatAreWrong(t *testing.T) {
	for _, k := range kinds {
		date := k.date[:strings.Index(k.date, ">")+1]
		for _, within := range []string{"", k.date, k.text(0, ""), k.text(0, " &lt;br> ") + k.date, k.text(0, "g") + strings.Replace(k.date, "1970", "1870", 1), k.text(0, "g") + date + date[:1] + "/" + date[1:], markup("x", k.text(0, "g"), k.date)} {
			for _, row := range []string{markup(k.name, within), markup(k.name, within) + k.entry("h"), k.entry("h") + markup(k.name, within)} {
				checkFault(t, k.doc(row), greatest(), api.ErrEntry)
			}
		}
	}
	checkItems(t, rssKind.doc("<item><guid>g</guid></item>"), greatest(), api.Item{Guid: "g"})
	checkFault(t, atomKind.doc("<entry><id>g</id></entry>"), greatest(), api.ErrEntry)
}

// odd is a document of which several errors may hold at once.
type odd struct {
	argument int    // which number may not be; -1: none
	long     bool   // has more bytes than may be
	fault    string // how it is no document
	root     string // instead of its kind's, if it isn't empty
	many     bool   // has more entries than may be
	entries  string // odd ones among its entries: long, wrong
}

// code: the one that is named first.
func (x odd) code() api.Code {
	switch {
	case x.argument >= 0:
		return api.ErrArg
	case x.long:
		return api.ErrLong
	case x.fault == "deep" || x.fault == "deep, then none":
		return api.ErrDepth
	case x.fault != "":
		return api.ErrSyntax
	case x.root != "":
		return api.ErrFormat
	case x.many || strings.Contains(x.entries, "long"):
		return api.ErrLimit
	case strings.Contains(x.entries, "wrong"):
		return api.ErrEntry
	}
	return api.OK
}

// written: the document of kind k, and its numbers.
func (x odd) written(k kind) (string, api.Params) {
	p := api.Params{Depth: 5, DocEntries: 4, Field: 3}
	entries := []string{k.entry("a"), k.entry("b")}
	for _, name := range strings.Fields(x.entries) {
		entries = append(entries, k.entry(map[string]string{"long": "four", "wrong": ""}[name]))
	}
	if x.many {
		p.DocEntries = len(entries) - 1
	}
	if x.root != "" {
		k.around = slices.Clone(k.around)
		k.around[0] = x.root
	}
	deep := map[bool]string{true: nest(5)}[strings.Contains(x.fault, "deep")]
	s := k.doc(strings.Join(entries, deep) + deep)
	switch x.fault {
	case "none":
		s += "</x>"
	case "none, then deep":
		s = "x" + s
	case "deep, then none":
		s += "<"
	}
	p.Doc = len(s)
	if x.long {
		p.Doc--
	}
	if x.argument >= 0 {
		p = put(p, x.argument, []int{0, bounds[x.argument] + 1}[len(s)%2])
	}
	return s, p
}

// The errors stand in one order for all documents: the numbers, the length, the document, what it is of.
func TestOfSeveralErrorsTheFirst(t *testing.T) {
	told := map[api.Code]int{}
	for _, k := range kinds {
		for argument := -1; argument < 4; argument++ {
			for i := range 4 {
				for _, fault := range []string{"", "none", "deep", "deep, then none", "none, then deep"} {
					for _, root := range []string{"", "html", "Feed", "RSS"} {
						for _, entries := range []string{"", "long", "wrong", "wrong long", "long wrong"} {
							x := odd{argument, i%2 > 0, fault, root, i/2 > 0, entries}
							s, p := x.written(k)
							told[x.code()]++
							if x.code() == api.OK {
								checkItems(t, s, p, item("a"), item("b"))
							} else {
								checkFault(t, s, p, x.code())
							}
							checkAlike(t, s, p)
						}
					}
				}
			}
		}
	}
	for _, c := range []api.Code{api.OK, api.ErrArg, api.ErrLong, api.ErrSyntax, api.ErrDepth, api.ErrFormat, api.ErrLimit, api.ErrEntry} {
		if told[c] == 0 {
			t.Errorf("no document of %v", c)
		}
	}
}

// An rss without a channel is of nothing, however many items it has.
func TestFormatAheadOfLimits(t *testing.T) {
	for _, s := range []string{markup("rss", repeat("<item/>", 70)), markup("rss", repeat("<entry/>", 70)), markup("html", repeat(root("feed"), 70)), markup("Feed", atomKind.entry(repeat("g", 300)))} {
		checkFault(t, s, greatest(), api.ErrFormat)
		checkFault(t, s, put(put(greatest(), 2, 1), 3, 1), api.ErrFormat)
	}
}

// parts: what documents are put together of, with what is wrong with some.
func parts() []string {
	l := []string{"<feed>", "</feed>", "<rss>", "</rss>", "<channel>", "</channel>", "<feed/>", "<x>", "</x>", "<x/>", "text", " ", "&amp;", "&", "<", "<!--x-->", "<![CDATA[y]]>", "\ufeff", "<?xml ?>", "\xff", "\x00"}
	for _, k := range kinds {
		l = append(l, "<"+k.name+">", "</"+k.name+">", k.entry("g"), k.entry("h", k.text(1, "title"), k.text(2, "a"), k.text(3, "body")), k.entry(""), k.entry("long one"), k.date, k.text(0, "i"))
	}
	return l
}

// numbers: some that may be, and some that may not, by mixed ones.
func numbers(m uint64) api.Params {
	p := greatest()
	for i, most := range bounds {
		switch n := m >> (8 * i) % 16; {
		case n < 6:
			p = put(p, i, []int{300, 4, 2, 5}[i])
		case n < 8:
			p = put(p, i, int(m>>40)%(most+2))
		}
	}
	return p
}

func TestMixedTexts(t *testing.T) {
	mixed := sample.Mixed(30000)
	for i, s := range sample.Texts(parts(), len(mixed), 12) {
		checkAlike(t, s, greatest())
		checkAlike(t, s, numbers(mixed[i]))
		for _, k := range kinds {
			checkAlike(t, k.doc(s), greatest())
			checkAlike(t, k.doc(s), numbers(mixed[i]))
		}
		if t.Failed() {
			return
		}
	}
}

// Documents in which mostly nothing is wrong.
func TestMixedDocuments(t *testing.T) {
	mixed := sample.Mixed(5000)
	for _, k := range kinds {
		good := []string{k.entry("g"), k.entry("h", k.text(1, "a &amp;lt; b")), k.entry("i", k.text(2, "x"), k.text(3, "&lt;p>y")), k.entry("&#65;", nest(2)), "<x/>", " ", "<!--x-->"}
		for i, s := range sample.Texts(good, len(mixed), 10) {
			if i%5 > 0 {
				s += k.entry([]string{"", "long one", "g"}[i%3])
			}
			checkAlike(t, k.doc(s), greatest())
			checkAlike(t, k.doc(s), numbers(mixed[i]))
			checkAlike(t, markup([]string{"html", "rss", "feed"}[i%3], s), numbers(mixed[i]))
			if t.Failed() {
				return
			}
		}
	}
}

// Any bytes: each one at each place of a document, one more or instead of another.
func TestEachByteAtEachPlace(t *testing.T) {
	for _, k := range kinds {
		s := k.doc(markup(k.name, k.text(0, "g"), k.date, k.text(2, "a")))
		for i := range s {
			for c := range 256 {
				b := string([]byte{byte(c)})
				checkAlike(t, s[:i]+b+s[i:], greatest())
				checkAlike(t, s[:i]+b+s[i+1:], greatest())
			}
			checkAlike(t, s[:i]+s[i+1:], greatest())
			checkAlike(t, s[i:], greatest())
			if t.Failed() {
				return
			}
		}
	}
}

func TestBytesThatAreNoText(t *testing.T) {
	for _, m := range sample.Mixed(3000) {
		b := sample.Bytes(m, 60)
		for _, p := range []api.Params{greatest(), numbers(m)} {
			checkAlike(t, b, p)
			checkAlike(t, "<feed>"+b+"</feed>", p)
			checkAlike(t, rssKind.doc(rssKind.entry(b)), p)
		}
	}
	for _, b := range []string{"\xff", "\xc0\x80", "\xed\xa0\x80", "\xf4\x90\x80\x80", "\xe2\x82", "\x00", "\ufffe", "\x1f"} {
		for _, k := range kinds {
			checkFault(t, k.doc(k.entry("g"), b), greatest(), api.ErrSyntax)
			checkFault(t, k.doc(k.entry("g"))+b, greatest(), api.ErrSyntax)
			checkFault(t, b+k.doc(k.entry("g")), greatest(), api.ErrSyntax)
		}
	}
}

// spoil writes over all that was answered, its spare room too.
func spoil(l []api.Item) {
	for i := range l[:cap(l)] {
		l[:cap(l)][i] = api.Item{Guid: "spoilt", Title: "spoilt"}
	}
}

// What was given is changed behind the call: no answer turns with it, nor with another answer.
func TestAnswersDoNotTurn(t *testing.T) {
	for _, k := range kinds {
		s := k.doc(k.entry("g", k.text(1, "title"), k.text(2, "http://a/"), k.text(3, "&lt;p>body")), k.entry("h"))
		want := []api.Item{{Guid: "g", Title: "title", Link: "http://a/", Body: "body", Dated: true}, item("h")}
		b := []byte(s + "spare room")
		given := unsafe.String(&b[0], len(s))
		items, err := feed.Parse(given, greatest())
		other, _ := feed.Parse(given, greatest())
		if string(b) != s+"spare room" {
			t.Errorf("changed: %q", b)
		}
		spoil(other)
		for i := range b {
			b[i] = '#'
		}
		if err != nil || !slices.Equal(items, want) {
			t.Errorf("turned: %v, %v", items, err)
		}
		spoil(items)
		checkItems(t, s, greatest(), want...)
	}
}

// Each fault is a new one, and so is what it wraps.
func TestFaultsShareNothing(t *testing.T) {
	for _, row := range []struct {
		s    string
		p    api.Params
		want api.Code
	}{
		{"<feed/>", api.Params{}, api.ErrArg}, {"<feed/>", put(greatest(), 0, 6), api.ErrLong}, {"<feed>", greatest(), api.ErrSyntax}, {"<feed><x/></feed>", put(greatest(), 1, 1), api.ErrDepth}, {"<x/>", greatest(), api.ErrFormat},
		{rssKind.doc(rssKind.entry("gh")), put(greatest(), 3, 1), api.ErrLimit}, {atomKind.doc(atomKind.entry("")), greatest(), api.ErrEntry},
	} {
		_, err := feed.Parse(row.s, row.p)
		_, other := feed.Parse(row.s, row.p)
		var f, g *api.Fault
		for errors.As(other, &g) {
			other = g.Err
			g.At, g.Err = 7, api.ErrBroken
		}
		if _, amiss := sample.Fault(err, row.want); amiss != "" || !errors.As(err, &f) || f.At == 7 {
			t.Errorf("turned: %v, %s", err, amiss)
		}
		checkFault(t, row.s, row.p, row.want)
		checkAlike(t, row.s, row.p)
	}
}

func TestNothingIsKept(t *testing.T) {
	mixed := sample.Mixed(300)
	for i, s := range sample.Texts(parts(), len(mixed), 12) {
		feed.Parse(s, numbers(mixed[i]))
		feed.Code(api.Code(i))
		for _, k := range kinds {
			checkItems(t, k.doc(k.entry("g")), greatest(), item("g"))
		}
		checkFault(t, "<html/>", greatest(), api.ErrFormat)
	}
}

func FuzzFeed(f *testing.F) {
	for i, s := range sample.Texts(parts(), 30, 12) {
		f.Add(s, 65536, 64, i%7, 1024)
		f.Add(rssKind.doc(s), len(s), 4, 64, i)
		f.Add(atomKind.doc(s), 300, i%5, 2, 5)
	}
	f.Fuzz(func(t *testing.T, s string, doc, depth, many, field int) {
		p := api.Params{Doc: doc, Depth: depth, DocEntries: many, Field: field}
		checkAlike(t, s, p)
		checkAlike(t, s, greatest())
		for _, k := range kinds {
			checkAlike(t, k.doc(s), greatest())
			checkAlike(t, k.doc(k.entry(s), k.entry("g")), p)
		}
		_, err := lex.Tokens(s, depth)
		var code api.Code
		if errors.As(err, &code); feed.Code(err) != code {
			t.Errorf("Code(%v): %v", err, feed.Code(err))
		}
	})
}
