package print_test

import (
	"html"
	"math"
	"slices"
	"strings"
	"testing"
	"unsafe"

	"newsreel/api"
	"newsreel/clean"
	"newsreel/print"
	"newsreel/sample"
)

var repeat = strings.Repeat

// hidden: texts, and how they are hidden.
var hidden = [][2]string{
	{"", ""},
	{"a", "a"},
	{"Fish and chips, 1 - 2; 'quoted' #5", "Fish and chips, 1 - 2; 'quoted' #5"},
	{"&", "&amp;"},
	{"<", "&lt;"},
	{">", "&gt;"},
	{`"`, "&quot;"},
	{"&&", "&amp;&amp;"},
	{"<<", "&lt;&lt;"},
	{">>", "&gt;&gt;"},
	{`""`, "&quot;&quot;"},
	{"&a", "&amp;a"},
	{"<a", "&lt;a"},
	{">a", "&gt;a"},
	{`"a`, "&quot;a"},
	{"a&", "a&amp;"},
	{"a<", "a&lt;"},
	{"a>", "a&gt;"},
	{`a"`, "a&quot;"},
	{"a&b", "a&amp;b"},
	{"a<b", "a&lt;b"},
	{"a>b", "a&gt;b"},
	{`a"b`, "a&quot;b"},
	{`&<>"`, "&amp;&lt;&gt;&quot;"},
	{`">&<"`, "&quot;&gt;&amp;&lt;&quot;"},
	{`& < > "`, "&amp; &lt; &gt; &quot;"},
	{"&amp;", "&amp;amp;"},
	{"&amp;amp;", "&amp;amp;amp;"},
	{"&lt;", "&amp;lt;"},
	{"&amp;lt;", "&amp;amp;lt;"},
	{"&gt;&quot;&apos;&#65;&#x41;&nope;&;", "&amp;gt;&amp;quot;&amp;apos;&amp;#65;&amp;#x41;&amp;nope;&amp;;"},
	{"&amp", "&amp;amp"},
	{"amp;", "amp;"},
	{"'", "'"},
	{`'"'`, "'&quot;'"},
	{`<a href="x">Fish & 'chips'</a>`, "&lt;a href=&quot;x&quot;&gt;Fish &amp; 'chips'&lt;/a&gt;"},
	{"<!--x-->", "&lt;!--x--&gt;"},
	{"]]>", "]]&gt;"},
	{"<![CDATA[x]]>", "&lt;![CDATA[x]]&gt;"},
	{"</guid></item></channel></rss>", "&lt;/guid&gt;&lt;/item&gt;&lt;/channel&gt;&lt;/rss&gt;"},
	{`"/></entry></feed>`, "&quot;/&gt;&lt;/entry&gt;&lt;/feed&gt;"},
	{"<?xml ?>", "&lt;?xml ?&gt;"},
	{"http://a/?b=c&d=\"e\"", "http://a/?b=c&amp;d=&quot;e&quot;"},
	{" ", " "},
	{" a  b ", " a  b "},
	{"\n", "\n"},
	{"a\n<\n\nb\n", "a\n&lt;\n\nb\n"},
	{"\t\v\f\r\r\n\u00a0", "\t\v\f\r\r\n\u00a0"},
	{"%s %d %% \\n \\", "%s %d %% \\n \\"},
	{"\x00", "\x00"},
	{"\x00<\x00", "\x00&lt;\x00"},
	{"a\x00&", "a\x00&amp;"},
	{"\x7f\x80\xff", "\x7f\x80\xff"},
	{"\xff<\xfe&\xc3>\xe2\x82\"", "\xff&lt;\xfe&amp;\xc3&gt;\xe2\x82&quot;"},
	{"\xc0\xbc\xc0\xa6", "\xc0\xbc\xc0\xa6"}, // too long a way of writing < and &
	{"\xed\xa0\x80<\xf4\x90\x80\x80", "\xed\xa0\x80&lt;\xf4\x90\x80\x80"},
	{"\u00e4<\u00e4", "\u00e4&lt;\u00e4"},
	{"\u20ac&\u20ac", "\u20ac&amp;\u20ac"},
	{"\U0001f600\"\U0001f600>", "\U0001f600&quot;\U0001f600&gt;"},
	{"\u2039\u203a\u201c\u2033\u02ba\u226a\uff1c\uff06\uff1e\uff02", "\u2039\u203a\u201c\u2033\u02ba\u226a\uff1c\uff06\uff1e\uff02"}, // signs that look like them
	{"\ufeff\ufffd\ufffe\uffff", "\ufeff\ufffd\ufffe\uffff"},
}

// checkText: what a call wrote is want; if it isn't, the test tells where they part.
func checkText(t *testing.T, call, got, want string) {
	t.Helper()
	if got == want {
		return
	}
	at := 0
	for at < min(len(got), len(want)) && got[at] == want[at] {
		at++
	}
	t.Errorf("%.300s: at %d: %.200q, not %.200q", call, at, got[at:], want[at:])
}

// checkEscape: want is how s is hidden; and that stands for s.
func checkEscape(t *testing.T, s, want string) {
	t.Helper()
	got := print.Escape(s)
	if got == want && clean.Entities(got) == s && html.UnescapeString(got) == s && !strings.ContainsAny(got, `<>"`) {
		return
	}
	t.Errorf("Escape(%.200q): %.200q, not %.200q", s, got, want)
}

// checkWritten: the document of l is that of the other way.
func (k kind) checkWritten(t *testing.T, l ...api.Item) {
	t.Helper()
	checkText(t, k.name, k.write(l), k.plain(l))
}

// checkLines: the document of l has these lines, and nothing else.
func checkLines(t *testing.T, write func([]api.Item) string, l []api.Item, want ...string) {
	t.Helper()
	checkText(t, "document", write(l), strings.Join(want, "\n")+"\n")
}

func TestTheChaptersExample(t *testing.T) {
	checkEscape(t, "a<b", "a&lt;b")
}

func TestEscape(t *testing.T) {
	for _, row := range hidden {
		checkEscape(t, row[0], row[1])
		for _, other := range hidden {
			checkEscape(t, row[0]+other[0], row[1]+other[1])
		}
	}
}

func TestEscapeOfEachByte(t *testing.T) {
	names := map[string]string{"&": "&amp;", "<": "&lt;", ">": "&gt;", `"`: "&quot;"}
	for c := range 256 {
		s := string([]byte{byte(c)})
		want, isSign := names[s]
		if !isSign {
			want = s
		}
		if got := print.Escape(s); got != want {
			t.Errorf("Escape(%q): %q", s, got)
		}
		for _, n := range []int{1, 2, 3, 10, 1000} {
			for _, beside := range []string{"", "a", "x y", ";", "&", "<", "\xff", "\u20ac"} {
				hide := plainEscape(beside)
				checkEscape(t, beside+repeat(s, n), hide+repeat(want, n))
				checkEscape(t, repeat(s, n)+beside, repeat(want, n)+hide)
				checkEscape(t, beside+repeat(s, n)+beside, hide+repeat(want, n)+hide)
			}
		}
	}
}

func TestEscapeOfEachPairOfBytes(t *testing.T) {
	for a := range 256 {
		for b := range 256 {
			s := string([]byte{byte(a), byte(b)})
			checkEscape(t, s, plainEscape(s))
		}
	}
}

func TestEscapeBesideEachRune(t *testing.T) {
	for r := range rune(0x110000) {
		s := "<" + string(r) + "&"
		want := "&lt;" + string(r) + "&amp;"
		if r < 0x80 {
			want = plainEscape(s)
		}
		if got := print.Escape(s); got != want {
			t.Fatalf("Escape(%q): %q", s, got)
		}
	}
}

func TestEscapeOfAllShortTexts(t *testing.T) {
	for l := range sample.Lists([]string{"&", "<", ">", `"`, "'", ";", "amp", "lt;", "a", "\n", "\x00", "\xc3", "\u20ac"}, 4) {
		s := strings.Join(l, "")
		checkEscape(t, s, plainEscape(s))
	}
}

// What is hidden is hidden once more.
func TestEscapeOfWhatIsHidden(t *testing.T) {
	s := `<"&'>`
	for _, want := range []string{"&lt;&quot;&amp;'&gt;", "&amp;lt;&amp;quot;&amp;amp;'&amp;gt;", "&amp;amp;lt;&amp;amp;quot;&amp;amp;amp;'&amp;amp;gt;"} {
		checkEscape(t, s, want)
		s = want
	}
	s, want := "&", "&"
	for range 300 {
		want += "amp;"
		checkEscape(t, s, want)
		s = want
	}
}

const (
	xmlLine  = `<?xml version="1.0"?>`
	rssLine  = `<rss version="2.0"><channel><title>newsreel</title>`
	rssTail  = `</channel></rss>`
	atomLine = `<feed xmlns="http://www.w3.org/2005/Atom"><title>newsreel</title>`
	atomTail = `</feed>`
)

func TestNoEntries(t *testing.T) {
	for _, l := range [][]api.Item{nil, {}, make([]api.Item, 0, 3), make([]api.Item, 3)[:0]} {
		checkText(t, "Rss", print.Rss(l), "<?xml version=\"1.0\"?>\n<rss version=\"2.0\"><channel><title>newsreel</title>\n</channel></rss>\n")
		checkText(t, "Atom", print.Atom(l), "<?xml version=\"1.0\"?>\n<feed xmlns=\"http://www.w3.org/2005/Atom\"><title>newsreel</title>\n</feed>\n")
	}
}

func TestAnEntryOfNothing(t *testing.T) {
	l := make([]api.Item, 1)
	checkLines(t, print.Rss, l, xmlLine, rssLine, "<item><guid></guid><title></title><link></link><description></description></item>", rssTail)
	checkLines(t, print.Atom, l, xmlLine, atomLine, `<entry><id></id><title></title><link href=""/><summary></summary></entry>`, atomTail)
	l[0].Dated = true
	checkLines(t, print.Rss, l, xmlLine, rssLine, "<item><guid></guid><title></title><link></link><description></description><pubDate>Thu, 01 Jan 1970 00:00:00 GMT</pubDate></item>", rssTail)
	checkLines(t, print.Atom, l, xmlLine, atomLine, `<entry><id></id><title></title><link href=""/><summary></summary><updated>1970-01-01T00:00:00Z</updated></entry>`, atomTail)
}

func TestWholeDocuments(t *testing.T) {
	l := []api.Item{
		{Guid: "1", Title: "Storm hits the coast", Link: "http://a/1", Body: "It was <b>loud</b>.", Date: 1136214245, Dated: true},
		{Guid: "g 2", Title: "Cat & \"dog\" found", Link: "http://a/?b=\"c\"&d=<e>", Body: "In\nthe\n\nwood"},
		{Guid: "1"},
	}
	checkText(t, "Rss", print.Rss(l), `<?xml version="1.0"?>
<rss version="2.0"><channel><title>newsreel</title>
<item><guid>1</guid><title>Storm hits the coast</title><link>http://a/1</link><description>It was &lt;b&gt;loud&lt;/b&gt;.</description><pubDate>Mon, 02 Jan 2006 15:04:05 GMT</pubDate></item>
<item><guid>g 2</guid><title>Cat &amp; &quot;dog&quot; found</title><link>http://a/?b=&quot;c&quot;&amp;d=&lt;e&gt;</link><description>In
the

wood</description></item>
<item><guid>1</guid><title></title><link></link><description></description></item>
</channel></rss>
`)
	checkText(t, "Atom", print.Atom(l), `<?xml version="1.0"?>
<feed xmlns="http://www.w3.org/2005/Atom"><title>newsreel</title>
<entry><id>1</id><title>Storm hits the coast</title><link href="http://a/1"/><summary>It was &lt;b&gt;loud&lt;/b&gt;.</summary><updated>2006-01-02T15:04:05Z</updated></entry>
<entry><id>g 2</id><title>Cat &amp; &quot;dog&quot; found</title><link href="http://a/?b=&quot;c&quot;&amp;d=&lt;e&gt;"/><summary>In
the

wood</summary></entry>
<entry><id>1</id><title></title><link href=""/><summary></summary></entry>
</feed>
`)
}

// withText: x with that text of that number.
func withText(x api.Item, i int, s string) api.Item {
	sample.Put(&x, i, s)
	return x
}

// Each text in each place: alone, and beside others.
func TestEachOfTheTexts(t *testing.T) {
	for _, k := range kinds() {
		for i, ends := range k.ends {
			for _, row := range hidden {
				s := k.write([]api.Item{withText(api.Item{}, i, row[0])})
				if part := ends[0] + row[1] + ends[1]; strings.Count(s, part) != 1+strings.Count(k.head, part) {
					t.Errorf("%s of text %d %q: %q", k.name, i, row[0], s)
				}
				for _, x := range []api.Item{{}, {Guid: "g", Title: "title", Link: "http://a/", Body: "body"}, {Guid: row[0], Title: row[0], Link: row[0], Body: row[0], Dated: true}} {
					k.checkWritten(t, withText(x, i, row[0]))
					k.checkWritten(t, x, withText(x, i, row[0]), x)
				}
			}
		}
	}
}

func TestEachByteInEachText(t *testing.T) {
	for _, k := range kinds() {
		for i := range k.ends {
			for c := range 256 {
				s := string([]byte{byte(c)})
				for _, s := range []string{s, s + s, "a" + s, s + "a", "a" + s + "b"} {
					k.checkWritten(t, withText(api.Item{Guid: "g", Date: c, Dated: c%2 > 0}, i, s))
				}
			}
		}
	}
}

// edges: numbers at the ends of their type, at those that have dates, and such whose low bits alone would be one.
func edges() []int {
	return []int{math.MinInt, math.MinInt + 1, -1 << 53, -1 << 40, -1 << 32, -1<<32 + 1136214245, -1<<31 - 1, -1 << 31, -api.MaxDate, -86400, -2, -1,
		0, 1, 59, 60, 3599, 3600, 86399, 86400, 951782399, 951782400, 1136214245, 1<<31 - 1, 1 << 31, 1<<32 - 1, 1 << 32, 1<<32 + 1136214245, api.MaxDate - 1, api.MaxDate,
		api.MaxDate + 1, api.MaxDate + 2, api.MaxDate + 86400, 2 * api.MaxDate, 1 << 40, 1 << 53, 1<<62 + 5, math.MaxInt - 1, math.MaxInt}
}

func TestDates(t *testing.T) {
	for n, want := range map[int][2]string{
		0:               {"Thu, 01 Jan 1970 00:00:00 GMT", "1970-01-01T00:00:00Z"},
		1:               {"Thu, 01 Jan 1970 00:00:01 GMT", "1970-01-01T00:00:01Z"},
		951782400:       {"Tue, 29 Feb 2000 00:00:00 GMT", "2000-02-29T00:00:00Z"},
		1136214245:      {"Mon, 02 Jan 2006 15:04:05 GMT", "2006-01-02T15:04:05Z"},
		api.MaxDate:     {"Fri, 31 Dec 9999 23:59:59 GMT", "9999-12-31T23:59:59Z"},
		api.MaxDate + 1: {},
		-1:              {},
		math.MinInt:     {},
		math.MaxInt:     {},
	} {
		l := []api.Item{{Guid: "g", Title: "t", Link: "l", Body: "b", Date: n, Dated: true}}
		checkLines(t, print.Rss, l, xmlLine, rssLine, "<item><guid>g</guid><title>t</title><link>l</link><description>b</description><pubDate>"+want[0]+"</pubDate></item>", rssTail)
		checkLines(t, print.Atom, l, xmlLine, atomLine, `<entry><id>g</id><title>t</title><link href="l"/><summary>b</summary><updated>`+want[1]+"</updated></entry>", atomTail)
	}
	for _, k := range kinds() {
		for _, n := range edges() {
			x := api.Item{Guid: "g", Date: n, Dated: true}
			k.checkWritten(t, x)
			k.checkWritten(t, api.Item{}, x, x, api.Item{Date: n})
		}
		for n := 0; n < 1<<31; n += 86400*6 + 3607 {
			k.checkWritten(t, api.Item{Date: n, Dated: true})
		}
	}
}

// Whatever the Date is, it isn't told of an entry that isn't Dated.
func TestEntriesThatAreNotDated(t *testing.T) {
	for _, n := range edges() {
		l := []api.Item{{Guid: "g", Title: "t", Link: "l", Body: "b", Date: n}}
		checkLines(t, print.Rss, l, xmlLine, rssLine, "<item><guid>g</guid><title>t</title><link>l</link><description>b</description></item>", rssTail)
		checkLines(t, print.Atom, l, xmlLine, atomLine, `<entry><id>g</id><title>t</title><link href="l"/><summary>b</summary></entry>`, atomTail)
	}
}

// items: entries of many kinds.
func items() []api.Item {
	l := []api.Item{{}, {Dated: true}, {Guid: "g", Title: "title", Link: "http://a/?b&c", Body: "<p>body</p>", Date: 1136214245, Dated: true}, {Guid: "g"}, {Guid: "g", Date: 7}, {Guid: "h", Date: -7, Dated: true}, {Title: "\n", Body: "\xff"}}
	for i := range 4 {
		l = append(l, withText(api.Item{}, i, `<&">'`))
	}
	return l
}

// Entries stand in their order, each one as it stands alone, however often it is there.
func TestTheEntriesOrder(t *testing.T) {
	for _, k := range kinds() {
		none := k.write(nil)
		ahead := len(none) - len(k.tail) - 1
		for l := range sample.Lists(items(), 3) {
			want := none[:ahead]
			for _, x := range l {
				one := k.write([]api.Item{x})
				want += one[ahead : len(one)-len(k.tail)-1]
			}
			checkText(t, k.name, k.write(l), want+none[ahead:])
			k.checkWritten(t, l...)
		}
	}
}

// Each line ends with an LF, and there are no others.
func TestLines(t *testing.T) {
	for _, k := range kinds() {
		var l []api.Item
		for n := range 100 {
			s := k.write(l)
			lines := strings.SplitAfter(s, "\n")
			if len(lines) != n+4 || lines[0] != xmlLine+"\n" || lines[1] != k.head+"\n" || lines[n+2] != k.tail+"\n" || lines[n+3] != "" || strings.Contains(s, "\r") {
				t.Errorf("%s of %d: %.500q", k.name, n, s)
			}
			l = append(l, api.Item{Guid: repeat("g", n), Title: "a b", Date: n, Dated: n%3 > 0})
		}
	}
}

// mixedItems: lists of entries of mixed texts and dates.
func mixedItems(n int) [][]api.Item {
	parts := append(firsts(hidden), "storm", "the coast", "a", "b", " ")
	made := sample.Texts(parts, 4*n, 6)
	dates := edges()
	var lists [][]api.Item
	var l []api.Item
	for i, m := range sample.Mixed(n) {
		x := api.Item{Guid: made[4*i], Title: made[4*i+1], Link: made[4*i+2], Body: made[4*i+3], Date: dates[m%uint64(len(dates))], Dated: m>>20%3 > 0}
		l = append(l, x)
		if m>>40%4 == 0 {
			lists, l = append(lists, l), nil
		}
	}
	return append(lists, l)
}

// firsts: the first ones of the pairs.
func firsts(pairs [][2]string) []string {
	var l []string
	for _, p := range pairs {
		l = append(l, p[0])
	}
	return l
}

func TestMixedEntries(t *testing.T) {
	for _, l := range mixedItems(20000) {
		for _, k := range kinds() {
			k.checkWritten(t, l...)
		}
		for _, x := range l {
			for _, s := range texts(x) {
				checkEscape(t, s, plainEscape(s))
			}
		}
		if t.Failed() {
			return
		}
	}
}

func TestBytesThatAreNoText(t *testing.T) {
	for _, m := range sample.Mixed(5000) {
		s := sample.Bytes(m, 60)
		checkEscape(t, s, plainEscape(s))
		for _, k := range kinds() {
			k.checkWritten(t, api.Item{Guid: s, Title: s + "\"", Link: "&" + s, Body: s + s, Date: int(m), Dated: true})
		}
	}
}

// given: the text s in memory that may be changed behind a call, with spare room.
func given(s string) (string, []byte) {
	b := []byte(s + "spare room")
	return unsafe.String(&b[0], len(s)), b
}

// What was given is changed behind the call: no answer turns with it, and the call has changed nothing.
func TestEscapeSharesNothing(t *testing.T) {
	for _, row := range hidden {
		s, b := given(row[0])
		got := print.Escape(s)
		if string(b) != row[0]+"spare room" {
			t.Errorf("Escape(%q) changed it: %q", row[0], b)
		}
		for i := range b {
			b[i] = '#'
		}
		checkText(t, "Escape, turned", got, row[1])
		checkEscape(t, row[0], row[1])
	}
}

func TestDocumentsShareNothing(t *testing.T) {
	for _, k := range kinds() {
		for _, row := range hidden {
			x := api.Item{Guid: row[0], Title: row[0], Link: row[0], Body: row[0], Date: 1136214245, Dated: true}
			want := k.plain([]api.Item{x, x})
			s, b := given(row[0])
			y := api.Item{Guid: s, Title: s, Link: s, Body: s, Date: 1136214245, Dated: true}
			l := sample.Roomy([]api.Item{y, y}, api.Item{Guid: "spare"})
			got := k.write(l)
			if string(b) != row[0]+"spare room" || !slices.Equal(l[:cap(l)], sample.Roomy([]api.Item{x, x}, api.Item{Guid: "spare"})[:cap(l)]) {
				t.Errorf("%s of %q changed it: %v, %q", k.name, row[0], l[:cap(l)], b)
			}
			for i := range b {
				b[i] = '#'
			}
			clear(l[:cap(l)])
			checkText(t, k.name+", turned", got, want)
			k.checkWritten(t, x, x)
		}
	}
}

// A part of a list is told without what stands around it.
func TestPartsOfLists(t *testing.T) {
	l := items()
	for _, k := range kinds() {
		for i := range l {
			for n := i; n <= len(l); n++ {
				checkText(t, k.name, k.write(l[i:n]), k.plain(slices.Clone(l[i:n])))
			}
		}
	}
}

func TestNothingIsKept(t *testing.T) {
	x := api.Item{Guid: "g", Title: "a<b", Date: 5, Dated: true}
	for _, l := range mixedItems(300) {
		print.Rss(l)
		print.Atom(l)
		for _, k := range kinds() {
			k.checkWritten(t, x)
			k.checkWritten(t)
		}
		checkEscape(t, "a<b", "a&lt;b")
	}
}

func FuzzPrint(f *testing.F) {
	for _, l := range mixedItems(30) {
		for _, x := range l {
			f.Add(x.Guid, x.Title, x.Link, x.Body, x.Date, x.Dated)
		}
	}
	f.Fuzz(func(t *testing.T, guid, title, link, body string, date int, dated bool) {
		x := api.Item{Guid: guid, Title: title, Link: link, Body: body, Date: date, Dated: dated}
		for _, s := range texts(x) {
			checkEscape(t, s, plainEscape(s))
		}
		for _, k := range kinds() {
			k.checkWritten(t, x)
			k.checkRead(t, x)
			k.checkRead(t, cleaned(x), x, api.Item{Guid: "g", Dated: true})
		}
	})
}
