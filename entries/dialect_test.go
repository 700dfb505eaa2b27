package entries_test

import (
	"slices"
	"strings"

	"newsreel/api"
	"newsreel/atom"
	"newsreel/date"
	"newsreel/rss"
	"newsreel/sample"
	"newsreel/tree"
)

// dialect is one of the ways in which documents tell of entries.
type dialect struct {
	read  sample.Reader
	head  []api.Node // what the entries stand within; the last one is their parent
	kid   string     // the name of an entry's element
	names [4]string  // those of the elements of the four texts; none, if a link's attribute tells it
	date  string     // that of the one that has the date
	stamp string     // a date that is seconds
	epoch string     // the date that is 0
	dated bool       // whether each entry must have one
	root  func(l []api.Node) (int, bool)
	tell  func(l []api.Node, i int) (x api.Item, good bool)
}

// seconds: those of a dialect's stamp.
const seconds = 1136214245

func dialects() []dialect {
	return []dialect{{
		read:  rss.Items,
		head:  []api.Node{sample.Element(-1, "rss"), sample.Element(0, "channel")},
		kid:   "item",
		names: [4]string{"guid", "title", "link", "description"},
		date:  "pubDate",
		stamp: "Mon, 02 Jan 2006 15:04:05 GMT",
		epoch: "1 Jan 1970 00:00 Z",
		root:  rss.Channel,
		tell:  plainRss,
	}, {
		read:  atom.Items,
		head:  []api.Node{sample.Element(-1, "feed")},
		kid:   "entry",
		names: [4]string{"id", "title", "", "summary"},
		date:  "updated",
		stamp: "2006-01-02T15:04:05Z",
		epoch: "1970-01-01T00:00:00Z",
		dated: true,
		root:  plainFeed,
		tell:  plainAtom,
	}}
}

// text: the entry's text of that number, as a document writes it.
func (d dialect) text(i int, s string) string {
	if d.names[i] == "" {
		return `<link href="` + strings.ReplaceAll(s, `"`, "&quot;") + `"/>`
	}
	return sample.Markup(d.names[i], s)
}

// document: the nodes of a document that has that where its entries stand.
func (d dialect) document(t sample.Teller, within ...string) []api.Node {
	t.Helper()
	s := strings.Join(within, "")
	for i := len(d.head) - 1; i >= 0; i-- {
		s = sample.Markup(d.head[i].Name, s)
	}
	return sample.Nodes(t, s)
}

// bare: an entry that has that within, and nothing else.
func (d dialect) bare(within ...string) string { return sample.Markup(d.kid, within...) }

// entry: one that has that within, and what it must have beside a Guid.
func (d dialect) entry(within ...string) string {
	if d.dated {
		within = append(within, sample.Markup(d.date, d.epoch))
	}
	return d.bare(within...)
}

// guid: the Guid, as a document writes it.
func (d dialect) guid(s string) string { return d.text(0, s) }

// item: what is read of an entry of that Guid.
func (d dialect) item(guid string) api.Item { return api.Item{Guid: guid, Dated: d.dated} }

// long: the nodes of l and of one entry more, whose Guid is of these texts.
func (d dialect) long(l []api.Node, texts ...string) []api.Node {
	at := len(l)
	l = append(l, sample.Element(len(d.head)-1, d.kid), sample.Element(at, d.names[0]))
	for _, s := range texts {
		l = append(l, sample.Words(at+1, s))
	}
	if d.dated {
		l = append(l, sample.Element(at, d.date), sample.Words(len(l), d.epoch))
	}
	return l
}

// The layers told another way: each question is put to the whole list, and all that is wrong is gathered first.

// plain: the entries, and the Code that is told.
func (d dialect) plain(l []api.Node, many, most int) ([]api.Item, api.Code) {
	root, there := d.root(l)
	if !there {
		return nil, api.ErrFormat
	}
	kids := tree.Named(l, root, d.kid)
	over, wrong := len(kids) > many, false
	var items []api.Item
	for _, at := range kids {
		x, good := d.tell(l, at)
		for _, s := range []string{x.Guid, x.Title, x.Link, x.Body} {
			over = over || len(s) > most
		}
		over = over || len(x.Guid) > 256
		wrong = wrong || x.Guid == "" || !good
		items = append(items, x)
	}
	return sample.Told(items, over, wrong)
}

// alike: the dialect is read of l as the other way tells it.
func (d dialect) alike(t sample.Teller, l []api.Node, many, most int) {
	t.Helper()
	want, code := d.plain(l, many, most)
	d.read.Alike(t, l, many, most, want, code)
}

// plainFeed: the root's place, if it is a feed.
func plainFeed(l []api.Node) (int, bool) {
	return 0, slices.IndexFunc(l, func(x api.Node) bool { return x.Name == "feed" }) == 0
}

// plainRss: the item at i, and whether its date is none, or a good one.
func plainRss(l []api.Node, i int) (x api.Item, good bool) {
	for n, name := range []string{"guid", "title", "link", "description"} {
		s, _ := rss.Field(l, i, name)
		sample.Put(&x, n, s)
	}
	stamp, told := rss.Field(l, i, "pubDate")
	x.Date, x.Dated = date.Rfc822(stamp)
	return x, x.Dated || !told
}

// plainAtom: the entry at i, and whether its date is a good one.
func plainAtom(l []api.Node, i int) (x api.Item, good bool) {
	x.Guid, _ = rss.Field(l, i, "id")
	x.Title, _ = rss.Field(l, i, "title")
	x.Link, _ = atom.Link(l, i)
	x.Body, _ = rss.Field(l, i, "content")
	if s, there := rss.Field(l, i, "summary"); there {
		x.Body = s
	}
	stamp, _ := rss.Field(l, i, "published")
	if s, there := rss.Field(l, i, "updated"); there {
		stamp = s
	}
	x.Date, x.Dated = date.Rfc3339(stamp)
	return x, x.Dated
}
