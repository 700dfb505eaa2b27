package rss

import (
	"slices"

	"newsreel/api"
	"newsreel/date"
)

// outside: the place that stands for a parent that isn't in the list.
const outside = -1

// What the owner of a node may be beside an item's number.
const (
	nobody  = -1
	unknown = -2
)

// piece is the part of a document that tells of one item: a list of nodes, and the item's place in it.
type piece struct {
	nodes []api.Node
	item  int
}

// field: the item's field of that name; nothing, if there is none.
func (p piece) field(name string) string {
	text, _ := Field(p.nodes, p.item, name)
	return text
}

// entry: the item's entry, if it is short by most, and nothing is wrong with it.
func (p piece) entry(most int) (api.Item, error) {
	x := api.Item{Guid: p.field("guid"), Title: p.field("title"), Link: p.field("link"), Body: p.field("description")}
	if !Short(x, most) {
		return api.Item{}, fault(api.ErrLimit)
	}
	stamp, told := Field(p.nodes, p.item, "pubDate")
	if told {
		x.Date, x.Dated = date.Rfc822(stamp)
	}
	if x.Guid == "" || told && !x.Dated {
		return api.Item{}, fault(api.ErrEntry)
	}
	return x, nil
}

// cut: of each of the items, which are kids of the node at channel, the piece of l that tells of it. What an item says is looked for in its own piece alone, so that the time grows as the list does, however many items there are.
func cut(l []api.Node, channel int, items []int) []piece {
	owner := owners(l, items)
	places := inner(owner, len(items))
	pieces := make([]piece, len(items))
	for at, x := range l {
		k := owner[at]
		if k == nobody {
			continue
		}
		if at == items[k] {
			x.Up = outside
			pieces[k].item = places[at]
		} else {
			x.Up = places[x.Up] // the parent has the same owner
		}
		pieces[k].nodes = append(pieces[k].nodes, x)
	}
	if k := owner[channel]; k != nobody {
		pieces[k] = piece{l, items[k]} // a ring: the channel stands within one of its items, and so all of them do
	}
	return pieces
}

// inner: the place that each node has in the piece of its owner, of so many owners.
func inner(owner []int, many int) []int {
	places := make([]int, len(owner))
	sizes := make([]int, many)
	for at, k := range owner {
		if k != nobody {
			places[at] = sizes[k]
			sizes[k]++
		}
	}
	return places
}

// owners: of each node of l the number of the item that it stands within; of several that of the nearest one.
func owners(l []api.Node, items []int) []int {
	owner := slices.Repeat([]int{unknown}, len(l))
	for k, at := range items {
		owner[at] = k
	}
	for from := range l {
		at := from
		for at >= 0 && at < len(l) && owner[at] == unknown {
			owner[at] = nobody // till the way's end is known; no node is gone through twice, so that it ends in a ring, too
			at = l[at].Up
		}
		if at < 0 || at >= len(l) {
			continue
		}
		for back := from; back != at; back = l[back].Up {
			owner[back] = owner[at]
		}
	}
	return owner
}
