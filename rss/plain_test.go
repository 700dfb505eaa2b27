package rss_test

import (
	"newsreel/api"
	"newsreel/clean"
	"newsreel/date"
	"newsreel/tree"
)

// The layer told another way: each question goes through the whole list anew, and all that is wrong is gathered first.

// plainField: what the first of those kids says, and how many there are.
func plainField(l []api.Node, i int, name string) (string, int) {
	kids := tree.Named(l, i, name)
	for _, at := range kids {
		return clean.Clean(tree.Text(l, at)), len(kids)
	}
	return "", 0
}

// plainChannel: the channel's place; -1, if there is none.
func plainChannel(l []api.Node) int {
	for root, x := range l {
		for at, kid := range l {
			if x.Name == "rss" && kid.Name == "channel" && kid.Up == root && at != root {
				return at
			}
		}
		break
	}
	return -1
}

// plainItems: the entries, and the Code that is told.
func plainItems(l []api.Node, many, most int) ([]api.Item, api.Code) {
	channel := plainChannel(l)
	if channel < 0 {
		return nil, api.ErrFormat
	}
	items := tree.Named(l, channel, "item")
	over, wrong := len(items) > many, false
	var entries []api.Item
	for _, at := range items {
		var texts [4]string
		for i, name := range textNames {
			texts[i], _ = plainField(l, at, name)
			over = over || len(texts[i]) > most
		}
		over = over || len(texts[0]) > 256
		wrong = wrong || texts[0] == ""
		stamp, dates := plainField(l, at, "pubDate")
		n, is := date.Rfc822(stamp)
		wrong = wrong || dates > 0 && !is
		entries = append(entries, api.Item{Guid: texts[0], Title: texts[1], Link: texts[2], Body: texts[3], Date: n, Dated: dates > 0})
	}
	switch {
	case over:
		return nil, api.ErrLimit
	case wrong:
		return nil, api.ErrEntry
	}
	return entries, api.OK
}
