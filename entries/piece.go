package entries

import (
	"slices"

	"newsreel/api"
)

// outside: the place that stands for a parent that isn't in the list.
const outside = -1

// What the owner of a node may be beside a kid's number.
const (
	nobody  = -1
	unknown = -2
)

// piece is the part of a document that tells of one kid: a list of nodes, and the kid's place in it.
type piece struct {
	nodes []api.Node
	kid   int
}

// cut: of each of the kids, which are those of the node at up, the piece of l that tells of it. What an entry says is looked for in its own piece alone, so that the time grows as the list does, however many entries there are.
func cut(l []api.Node, up int, kids []int) []piece {
	if len(kids) == 0 {
		return nil
	}
	owner := owners(l, kids)
	places := inner(owner, len(kids))
	pieces := make([]piece, len(kids))
	for at, x := range l {
		k := owner[at]
		if k == nobody {
			continue
		}
		if at == kids[k] {
			x.Up = outside
			pieces[k].kid = places[at]
		} else {
			x.Up = places[x.Up] // the parent has the same owner
		}
		pieces[k].nodes = append(pieces[k].nodes, x)
	}
	if k := owner[up]; k != nobody {
		pieces[k] = piece{l, kids[k]} // a ring: the node at up stands within one of its kids, and so all of them do
	}
	return pieces
}

// inner: the place that each node has in the piece of its owner, of so many owners.
func inner(owner []int, many int) []int {
	places := make([]int, len(owner))
	sizes := make([]int, many)
	for at, k := range owner {
		if k != nobody {
			places[at] = sizes[k]
			sizes[k]++
		}
	}
	return places
}

// owners: of each node of l the number of the kid that it stands within; of several that of the nearest one.
func owners(l []api.Node, kids []int) []int {
	owner := slices.Repeat([]int{unknown}, len(l))
	for k, at := range kids {
		owner[at] = k
	}
	for from := range l {
		at := from
		for at >= 0 && at < len(l) && owner[at] == unknown {
			owner[at] = nobody // till the way's end is known; no node is gone through twice, so that it ends in a ring, too
			at = l[at].Up
		}
		if at < 0 || at >= len(l) {
			continue
		}
		for back := from; back != at; back = l[back].Up {
			owner[back] = owner[at]
		}
	}
	return owner
}
