package print_test

import (
	"errors"
	"slices"
	"strings"
	"testing"

	"newsreel/api"
	"newsreel/clean"
	"newsreel/feed"
	"newsreel/lex"
	"newsreel/print"
	"newsreel/sample"
	"newsreel/tree"
)

// What is written is read: by layer 16 each text cleaned; by layers 11 and 12, and by others, as it was.

// greatest: numbers that may be, as great as may be.
func greatest() api.Params {
	return api.Params{Doc: 65536, Depth: 64, DocEntries: 64, Field: 1024}
}

// checkRead: layer 16 reads of the document of l what is told of it.
func (k kind) checkRead(t *testing.T, l ...api.Item) {
	t.Helper()
	want, code := k.told(l, 64, 1024)
	s := k.write(l)
	if len(s) > greatest().Doc {
		want, code = nil, api.ErrLong
	}
	got, err := feed.Parse(s, greatest())
	if feed.Code(err) != code || !slices.Equal(got, want) {
		t.Errorf("Parse(%.500q): %v, %v, not %v, %v", s, sample.FewItems(got), feed.Code(err), sample.FewItems(want), code)
	}
}

// checkSame: layer 16 reads of the document of l just l; and written again it is the same document.
func (k kind) checkSame(t *testing.T, l ...api.Item) {
	t.Helper()
	s := k.write(l)
	got, err := feed.Parse(s, greatest())
	if err != nil || !slices.Equal(got, l) {
		t.Errorf("Parse(%.500q): %v, %v, not %v", s, sample.FewItems(got), err, sample.FewItems(l))
	}
	checkText(t, k.name, k.write(got), s)
}

// checkRefused: layer 16 doesn't read the document of l, for that Code.
func (k kind) checkRefused(t *testing.T, want api.Code, l ...api.Item) {
	t.Helper()
	s := k.write(l)
	if got, err := feed.Parse(s, greatest()); len(got) != 0 || !errors.Is(err, want) {
		t.Errorf("Parse(%.500q): %v, %v, not %v", s, sample.FewItems(got), err, want)
	}
	k.checkRead(t, l...)
}

// checkVerbatim: the nodes of the document of l tell its texts as they are, whatever layer 16 makes of them, and nothing else.
func (k kind) checkVerbatim(t *testing.T, l ...api.Item) {
	t.Helper()
	nodes := sample.Nodes(t, k.write(l))
	parent := 0
	if k.depth == 4 {
		parent = 1
	}
	kids := elements(nodes, parent)
	if len(kids) != 1+len(l) || nodes[kids[0]].Name != "title" || tree.Text(nodes, kids[0]) != "newsreel" {
		t.Errorf("%s of %v: %d elements: %v", k.name, sample.FewItems(l), len(kids), sample.FewNodes(nodes))
		return
	}
	for i, at := range kids[1:] {
		if got, want := verbatim(nodes, at), slices.Concat(texts(l[i]), k.stamp(l[i])); !slices.Equal(got, want) {
			t.Errorf("%s of %v: %.500q, not %.500q", k.name, sample.FewItems(l), got, want)
		}
	}
}

// stamp: x's date, if x is Dated.
func (k kind) stamp(x api.Item) []string {
	if !x.Dated {
		return nil
	}
	return []string{strings.TrimSuffix(strings.TrimPrefix(k.plainDate(x), k.open), k.shut)}
}

// elements: the places of those kids of i that are elements.
func elements(l []api.Node, i int) []int {
	return slices.DeleteFunc(tree.Kids(l, i), func(at int) bool { return l[at].Name == "" })
}

// verbatim: what the elements within i have: a text, or an href.
func verbatim(l []api.Node, i int) []string {
	var all []string
	for _, at := range elements(l, i) {
		s, there := tree.Attr(l[at], "href")
		if !there {
			s = tree.Text(l, at)
		}
		all = append(all, s)
	}
	return all
}

func TestWholeEntriesAreRead(t *testing.T) {
	l := []api.Item{
		{Guid: "1", Title: "Storm hits the coast", Link: "http://a/1?b=\"c\">d", Body: "It was loud.", Date: 1136214245, Dated: true},
		{Guid: " 2\n", Title: "<i>Cat</i> found", Link: " http://a/?b&c ", Body: "<p>Fish &amp; <b>chips</b>", Dated: true},
		{Guid: "1", Title: "&amp;lt;", Link: "&#65;&nope;", Body: "a\n\nb\t]]><!--x-->", Date: api.MaxDate, Dated: true},
	}
	want := []api.Item{
		l[0],
		{Guid: "2", Title: "Cat found", Link: "http://a/?b&c", Body: "Fish & chips", Dated: true},
		{Guid: "1", Title: "&lt;", Link: "A&nope;", Body: "a b ]]>", Date: api.MaxDate, Dated: true},
	}
	for _, k := range kinds() {
		got, err := feed.Parse(k.write(l), greatest())
		if err != nil || !slices.Equal(got, want) {
			t.Errorf("%s: %v, %v", k.name, got, err)
		}
		k.checkRead(t, l...)
		k.checkVerbatim(t, l...)
	}
	rss := kinds()[0]
	rss.checkSame(t, api.Item{Guid: "g"}, api.Item{Guid: "h", Title: "t", Link: "l", Body: "b"})
	rss.checkRead(t, api.Item{Guid: "g", Date: 77}, api.Item{Guid: "g", Date: -77}) // a Date that isn't told isn't read
}

func TestNoEntriesAreRead(t *testing.T) {
	for _, k := range kinds() {
		k.checkSame(t)
		k.checkVerbatim(t)
	}
}

// readable: the hidden ones among the texts that a document may have.
func readable() []string {
	return slices.DeleteFunc(firsts(hidden), func(s string) bool { return !mayStand(s) })
}

func TestEachTextIsCleaned(t *testing.T) {
	for _, k := range kinds() {
		for i := range k.ends {
			for _, s := range readable() {
				for _, s := range []string{s, s + s, " " + s + "\n", "x" + s, "&amp;" + s, "<p>" + s + "</p>", plainEscape(s)} {
					x := withText(api.Item{Guid: "g", Title: "t", Link: "l", Body: "b", Date: 5, Dated: true}, i, s)
					if i == 0 && clean.Clean(s) == "" {
						k.checkRefused(t, api.ErrEntry, x)
						continue
					}
					k.checkRead(t, x)
					k.checkVerbatim(t, x, x)
					if got, _ := feed.Parse(k.write([]api.Item{x}), greatest()); !slices.Equal(got, []api.Item{withText(x, i, clean.Clean(s))}) {
						t.Errorf("%s of %q: %v", k.name, s, got)
					}
				}
			}
		}
	}
}

// plainTexts: texts of which nothing is cleaned.
func plainTexts() []string {
	l := slices.DeleteFunc(readable(), func(s string) bool { return !clean.Plain(s) })
	return append(l, ">", `"`, `a > b; "c" 'd' ]]> -->`, "amp;", "\u20ac \U0001f600", "http://a/b?c=d;e", "'", "]]", "--", "/>", "x y z")
}

func TestPlainTextsAreReadAsTheyWere(t *testing.T) {
	if len(plainTexts()) < 15 {
		t.Errorf("few texts are plain: %q", plainTexts())
	}
	for _, k := range kinds() {
		for _, s := range plainTexts() {
			for i := range k.ends {
				x := withText(api.Item{Guid: "g", Date: 1136214245, Dated: true}, i, s)
				if x.Guid != "" {
					k.checkSame(t, x)
					k.checkSame(t, x, api.Item{Guid: "h", Title: s, Link: s, Body: s, Dated: true}, x)
				}
			}
		}
	}
	for _, s := range plainTexts() { // of RSS also without a date
		kinds()[0].checkSame(t, api.Item{Guid: "g" + s, Title: s, Link: s, Body: s})
	}
}

// What was read of one kind is written as the other one, and read alike.
func TestOneKindAsTheOther(t *testing.T) {
	l := []api.Item{{Guid: "g", Title: "a \" b", Link: "http://a/?\"b'c>d", Body: "x > y", Date: 77, Dated: true}, {Guid: "h", Date: api.MaxDate, Dated: true}}
	for _, from := range kinds() {
		for _, to := range kinds() {
			got, err := feed.Parse(from.write(l), greatest())
			if err != nil {
				t.Errorf("%s: %v", from.name, err)
			}
			to.checkSame(t, got...)
			checkText(t, to.name, to.write(got), to.write(l))
		}
	}
}

func TestDatesAreRead(t *testing.T) {
	for _, k := range kinds() {
		for _, n := range edges() {
			x := api.Item{Guid: "g", Title: "t", Date: n, Dated: true}
			if n >= 0 && n <= api.MaxDate {
				k.checkSame(t, x)
			} else {
				k.checkRefused(t, api.ErrEntry, x)
				k.checkRefused(t, api.ErrEntry, api.Item{Guid: "h", Dated: true}, x)
			}
			x.Dated = false
			if k.dated {
				k.checkRefused(t, api.ErrEntry, x)
			} else {
				k.checkRead(t, x)
				k.checkSame(t, api.Item{Guid: "g", Title: "t"})
			}
		}
	}
}

// What layers 14 and 15 ask of entries, they ask of those that were written, too.
func TestEntriesThatMayNotBe(t *testing.T) {
	for _, k := range kinds() {
		good := api.Item{Guid: "g", Dated: true}
		for _, guid := range []string{"", " ", "\n\u00a0", "<p>", "&#32;", "<!--x-->"} {
			x := withText(good, 0, guid)
			k.checkRefused(t, api.ErrEntry, x)
			k.checkRefused(t, api.ErrEntry, good, x)
			k.checkRefused(t, api.ErrEntry, x, good)
		}
		for i, most := range []int{256, 1024, 1024, 1024} {
			for _, part := range []string{"x", "&", "'", "\u20ac", "&amp;", "&lt;"} {
				one := clean.Clean(part)
				k.checkRead(t, withText(good, i, repeat(part, most/len(one))))
				k.checkRefused(t, api.ErrLimit, withText(good, i, repeat(part, most/len(one)+1)))
			}
			k.checkSame(t, withText(good, i, repeat("x", most)))
			k.checkRead(t, withText(good, i, repeat(" ", 2*most)+repeat("x", most)))
			k.checkRefused(t, api.ErrLimit, api.Item{}, withText(good, i, repeat("x", most+1)))
		}
		var l []api.Item
		for range 64 {
			l = append(l, good)
			k.checkSame(t, l...)
		}
		k.checkRefused(t, api.ErrLimit, append(l, good)...)
		k.checkRefused(t, api.ErrLong, withText(good, 3, repeat(" ", 65536)), api.Item{Guid: "\xff"})
	}
}

// Just as deep as the elements that the chapter names.
func TestHowDeepDocumentsAre(t *testing.T) {
	for _, k := range kinds() {
		for _, l := range [][]api.Item{{{Guid: "g", Dated: true}}, {{Guid: "<a><b><c><d>", Title: "<a><b><c><d>x", Link: "<a>", Body: "<a><b>"}}} {
			if _, err := lex.Tokens(k.write(l), k.depth); err != nil {
				t.Errorf("%s: %v", k.name, err)
			}
			if _, err := lex.Tokens(k.write(l), k.depth-1); !errors.Is(err, api.ErrDepth) {
				t.Errorf("%s: %v, not of the depth", k.name, err)
			}
		}
		if _, err := lex.Tokens(k.write(nil), k.depth-1); err != nil {
			t.Errorf("%s of nothing: %v", k.name, err)
		}
	}
}

// Each rune that may stand in a document is read as it was; a document of any other one is none.
func TestEachRune(t *testing.T) {
	var b []byte
	for r := range rune(0x110000) {
		if clean.Char(r) {
			b = append(b, string(r)...)
		}
	}
	for _, k := range kinds() {
		for i := range k.ends {
			k.checkVerbatim(t, withText(api.Item{}, i, string(b)))
		}
		for r := rune(0); r < 0x120; r++ {
			k.checkEachRune(t, r)
		}
		for _, r := range []rune{0x7ff, 0x800, 0x2028, 0xd7ff, 0xe000, 0xfeff, 0xfffc, 0xfffd, 0xfffe, 0xffff, 0x10000, 0x1fffe, 0x10ffff} {
			k.checkEachRune(t, r)
		}
		for _, s := range []string{"\x80", "\xff", "\xc0\xbc", "\xc2", "\xe2\x82", "\xed\xa0\x80", "\xf4\x90\x80\x80", "a\xffb"} {
			for i := range k.ends {
				k.checkRefused(t, api.ErrSyntax, withText(api.Item{Guid: "g", Dated: true}, i, s))
			}
		}
	}
}

func (k kind) checkEachRune(t *testing.T, r rune) {
	t.Helper()
	for i := range k.ends {
		x := withText(api.Item{Guid: "g", Dated: true}, i, "a"+string(r)+"b")
		if !clean.Char(r) {
			k.checkRefused(t, api.ErrSyntax, x)
			continue
		}
		k.checkRead(t, x)
		k.checkVerbatim(t, x)
		if clean.Plain(texts(x)[i]) {
			k.checkSame(t, x)
		}
	}
}

// checkOutside: another reader reads of the document of l its texts as they are, and its dates.
func (k kind) checkOutside(t *testing.T, l ...api.Item) {
	t.Helper()
	want := slices.Clone(l)
	for i, x := range l {
		if !x.Dated || !hasDate(x.Date) {
			want[i].Date = 0
		}
	}
	if got, err := k.outside(k.write(l)); err != nil || !slices.Equal(got, want) {
		t.Errorf("%s of %v: %v, %v", k.name, sample.FewItems(l), sample.FewItems(got), err)
	}
}

func TestOtherReaders(t *testing.T) {
	for _, k := range kinds() {
		k.checkOutside(t)
		for _, s := range readable() {
			if strings.Contains(s, "\r") { // it makes an LF of it
				continue
			}
			for i := range k.ends {
				x := withText(api.Item{Guid: "g"}, i, s)
				k.checkOutside(t, x, api.Item{Guid: s, Title: s, Link: s, Body: s, Date: 1136214245, Dated: true}, x)
			}
		}
		for _, n := range edges() {
			k.checkOutside(t, api.Item{Date: n, Dated: true}, api.Item{Date: 0})
		}
	}
}

func TestMixedEntriesAreRead(t *testing.T) {
	counts := map[api.Code]int{}
	for _, l := range mixedItems(20000) {
		for _, k := range kinds() {
			k.checkRead(t, l...)
			_, code := k.told(l, 64, 1024)
			counts[code]++
			if code == api.ErrSyntax {
				continue
			}
			k.checkVerbatim(t, l...)
		}
		if t.Failed() {
			return
		}
	}
	for _, code := range []api.Code{api.OK, api.ErrSyntax, api.ErrEntry} {
		if counts[code] < 100 {
			t.Errorf("few lists of %v: %d", code, counts[code])
		}
	}
}

// Lists of entries of plain texts and good dates.
func TestMixedPlainEntries(t *testing.T) {
	const n = 5000
	made := sample.Texts([]string{"storm", "coast", " the ", " ", ">", `"`, "'", ";", "]]>", "\u20ac", "amp;", "/", "?b=", "#"}, 4*n, 9)
	for i := range made {
		made[i] = clean.Space(made[i])
	}
	var l []api.Item
	for i, m := range sample.Mixed(n) {
		l = append(l, api.Item{Guid: "g" + made[4*i], Title: made[4*i+1], Link: made[4*i+2], Body: made[4*i+3], Date: int(m % (api.MaxDate + 1)), Dated: true})
		if m>>40%4 == 0 {
			for _, k := range kinds() {
				k.checkSame(t, l...)
				k.checkOutside(t, l...)
			}
			l = nil
		}
	}
}

// One by one, each in a document of its own, or all in one: the same is read.
func TestOneByOne(t *testing.T) {
	l := []api.Item{{Guid: "a", Title: "<b>x", Dated: true}, {Guid: "b", Link: "a\"&b", Date: 5, Dated: true}, {Guid: "a", Body: "\n\ny", Date: 7, Dated: true}}
	for _, k := range kinds() {
		var all []api.Item
		for _, x := range l {
			one, _ := feed.Parse(k.write([]api.Item{x}), greatest())
			all = append(all, one...)
		}
		if got, err := feed.Parse(k.write(l), greatest()); err != nil || !slices.Equal(got, all) {
			t.Errorf("%s: %v, %v, not %v", k.name, got, err, all)
		}
	}
}

// A document within a document's text stays a text.
func TestDocumentsWithinDocuments(t *testing.T) {
	x := api.Item{Guid: "g", Title: "t & u", Dated: true}
	for range 6 {
		for _, k := range kinds() {
			s := k.write([]api.Item{x})
			y := api.Item{Guid: "g", Title: s, Link: s, Body: print.Escape(s), Dated: true}
			k.checkWritten(t, y)
			k.checkRead(t, y)
			k.checkVerbatim(t, y)
		}
		x.Title = print.Rss([]api.Item{x})
	}
}
