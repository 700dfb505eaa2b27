package print_test

import (
	"fmt"
	"strings"
	"time"
	"unicode/utf8"

	"newsreel/api"
	"newsreel/atom"
	"newsreel/clean"
	"newsreel/print"
	"newsreel/rss"
	"newsreel/sample"
)

// The layer told another way: each entry is a line of a form that is filled in, its date by the library; and what is read of a document is told of its entries alone.

// kind is one of the kinds of documents.
type kind struct {
	name    string
	write   func(l []api.Item) string
	head    string       // the second line
	entry   string       // the line of an entry: its four texts, and the element of its date, if it is Dated
	tail    string       // the last line
	ends    [4][2]string // what stands ahead of each of the texts, and behind
	open    string       // what stands ahead of a date
	layout  string       // a date, as the library writes it
	shut    string       // what stands behind a date
	depth   int          // how many elements stand in one another, where there is an entry
	dated   bool         // whether each entry that is read must be Dated
	read    sample.Reader
	outside func(s string) ([]api.Item, error) // another reader
}

func kinds() []kind {
	return []kind{{
		name:    "Rss",
		write:   print.Rss,
		head:    `<rss version="2.0"><channel><title>newsreel</title>`,
		entry:   "<item><guid>%s</guid><title>%s</title><link>%s</link><description>%s</description>%s</item>",
		tail:    "</channel></rss>",
		ends:    [4][2]string{{"<guid>", "</guid>"}, {"<title>", "</title>"}, {"<link>", "</link>"}, {"<description>", "</description>"}},
		open:    "<pubDate>",
		layout:  "Mon, 02 Jan 2006 15:04:05 GMT",
		shut:    "</pubDate>",
		depth:   4,
		read:    rss.Items,
		outside: outsideRss,
	}, {
		name:    "Atom",
		write:   print.Atom,
		head:    `<feed xmlns="http://www.w3.org/2005/Atom"><title>newsreel</title>`,
		entry:   `<entry><id>%s</id><title>%s</title><link href="%s"/><summary>%s</summary>%s</entry>`,
		tail:    "</feed>",
		ends:    [4][2]string{{"<id>", "</id>"}, {"<title>", "</title>"}, {`<link href="`, `"/>`}, {"<summary>", "</summary>"}},
		open:    "<updated>",
		layout:  "2006-01-02T15:04:05Z",
		shut:    "</updated>",
		depth:   3,
		dated:   true,
		read:    atom.Items,
		outside: outsideAtom,
	}}
}

// texts: the four texts of x.
func texts(x api.Item) []string { return []string{x.Guid, x.Title, x.Link, x.Body} }

var signs = strings.NewReplacer("<", "&lt;", ">", "&gt;", `"`, "&quot;", "&", "&amp;")

// plainEscape: s with its signs hidden by the library.
func plainEscape(s string) string { return signs.Replace(s) }

// plain: the document of l.
func (k kind) plain(l []api.Item) string {
	lines := []string{`<?xml version="1.0"?>`, k.head}
	for _, x := range l {
		var parts []any
		for _, s := range texts(x) {
			parts = append(parts, plainEscape(s))
		}
		lines = append(lines, fmt.Sprintf(k.entry, append(parts, k.plainDate(x))...))
	}
	return strings.Join(append(lines, k.tail, ""), "\n")
}

// plainDate: the element of x's date, if x is Dated; it has nothing within, if the number has no date.
func (k kind) plainDate(x api.Item) string {
	switch {
	case !x.Dated:
		return ""
	case !hasDate(x.Date):
		return k.open + k.shut
	}
	return k.open + time.Unix(int64(x.Date), 0).UTC().Format(k.layout) + k.shut
}

// hasDate: whether the number has a date.
func hasDate(n int) bool { return n >= 0 && n <= 253402300799 }

// mayStand: whether a document may have the text s.
func mayStand(s string) bool {
	return utf8.ValidString(s) && !strings.ContainsFunc(s, func(r rune) bool { return !clean.Char(r) })
}

// told: what is read of a document of l, whatever its length, by these limits: the entries, or a Code.
func (k kind) told(l []api.Item, many, most int) ([]api.Item, api.Code) {
	var items []api.Item
	over, wrong := len(l) > many, false
	for _, x := range l {
		if !mayStand(strings.Join(texts(x), " ")) {
			return nil, api.ErrSyntax
		}
		x = cleaned(x)
		over = over || !rss.Short(x, most)
		wrong = wrong || x.Guid == "" || k.dated && !x.Dated || x.Dated && !hasDate(x.Date)
		items = append(items, x)
	}
	return sample.Told(items, over, wrong)
}

// cleaned: x as it is read: each text cleaned, and no number where there is no date.
func cleaned(x api.Item) api.Item {
	for i, s := range texts(x) {
		sample.Put(&x, i, clean.Clean(s))
	}
	if !x.Dated {
		x.Date = 0
	}
	return x
}
