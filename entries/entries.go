// Package entries reads what layers 14 and 15 read alike: the entries of a document's nodes, each from the part of them that tells of it.
package entries

import (
	"errors"

	"newsreel/api"
	"newsreel/tree"
)

// Read: the entries of the kids of that name of the node at up, if there are no more than so many, by what one tells of the kid at i of l. The first entry that passes a limit is told ahead of what is wrong with any other one, as the chapters name it first.
func Read(l []api.Node, up int, name string, many int, one func(l []api.Node, i int) (api.Item, error)) ([]api.Item, error) {
	kids := tree.Named(l, up, name)
	if len(kids) > many {
		return nil, Fault(api.ErrLimit)
	}
	var items []api.Item
	var wrong *api.Fault
	for _, p := range cut(l, up, kids) {
		x, err := one(p.nodes, p.kid)
		if errors.Is(err, api.ErrLimit) {
			return nil, err
		}
		if !errors.As(err, &wrong) {
			items = append(items, x)
		}
	}
	if wrong != nil {
		return nil, wrong
	}
	return items, nil
}

// Fault: what is wrong. It tells no place: the chapters give a place no meaning.
func Fault(c api.Code) error {
	return &api.Fault{Err: c}
}
