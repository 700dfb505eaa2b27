package rss_test

import (
	"newsreel/api"
	"newsreel/clean"
	"newsreel/tree"
)

// The layer told another way: each question goes through the whole list anew.

// plainField: what the first of those kids says, and how many there are.
func plainField(l []api.Node, i int, name string) (string, int) {
	kids := tree.Named(l, i, name)
	for _, at := range kids {
		return clean.Clean(tree.Text(l, at)), len(kids)
	}
	return "", 0
}

// plainChannel: the channel's place; -1, if there is none.
func plainChannel(l []api.Node) int {
	for root, x := range l {
		for at, kid := range l {
			if x.Name == "rss" && kid.Name == "channel" && kid.Up == root && at != root {
				return at
			}
		}
		break
	}
	return -1
}
