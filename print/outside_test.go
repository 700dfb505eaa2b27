package print_test

import (
	"encoding/xml"
	"fmt"

	"newsreel/api"
	"newsreel/date"
)

// Another reader of documents, the library's: it tells texts as they stand there, but for CR, and asks nothing of entries.

func outsideRss(s string) ([]api.Item, error) {
	var doc struct {
		XMLName xml.Name `xml:"rss"`
		Version string   `xml:"version,attr"`
		Title   string   `xml:"channel>title"`
		Entries []struct {
			Guid  string  `xml:"guid"`
			Title string  `xml:"title"`
			Link  string  `xml:"link"`
			Body  string  `xml:"description"`
			Date  *string `xml:"pubDate"`
		} `xml:"channel>item"`
	}
	err := xml.Unmarshal([]byte(s), &doc)
	if err != nil || doc.Title != "newsreel" || doc.Version != "2.0" {
		return nil, fmt.Errorf("title %q, version %q: %w", doc.Title, doc.Version, err)
	}
	var l []api.Item
	for _, x := range doc.Entries {
		l = append(l, withDate(api.Item{Guid: x.Guid, Title: x.Title, Link: x.Link, Body: x.Body}, x.Date, date.Rfc822))
	}
	return l, nil
}

func outsideAtom(s string) ([]api.Item, error) {
	var doc struct {
		XMLName xml.Name `xml:"http://www.w3.org/2005/Atom feed"`
		Title   string   `xml:"title"`
		Entries []struct {
			Guid  string `xml:"id"`
			Title string `xml:"title"`
			Link  struct {
				Href string `xml:"href,attr"`
			} `xml:"link"`
			Body string  `xml:"summary"`
			Date *string `xml:"updated"`
		} `xml:"entry"`
	}
	err := xml.Unmarshal([]byte(s), &doc)
	if err != nil || doc.Title != "newsreel" {
		return nil, fmt.Errorf("title %q: %w", doc.Title, err)
	}
	var l []api.Item
	for _, x := range doc.Entries {
		l = append(l, withDate(api.Item{Guid: x.Guid, Title: x.Title, Link: x.Link.Href, Body: x.Body}, x.Date, date.Rfc3339))
	}
	return l, nil
}

// withDate: x with the date that stands there, if one does.
func withDate(x api.Item, stamp *string, seconds func(string) (int, bool)) api.Item {
	if stamp != nil {
		x.Dated = true
		x.Date, _ = seconds(*stamp)
	}
	return x
}
