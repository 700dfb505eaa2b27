package tree_test

import (
	"slices"

	"newsreel/api"
)

// The layer told another way: a list is made shorter until nothing is left of it; whose kid a node is, is looked for behind its begin; each question goes through the whole list anew.

// begins: whether x begins an element.
func begins(x api.Token) bool { return x.Kind == api.TokStart || x.Kind == api.TokEmpty }

// isTree: whether l makes a tree: ahead is the begin of an element, last is its end, and nothing is left of what is between, once texts and elements that have nothing within are taken out of it, again and again.
func isTree(l []api.Token) bool {
	for _, x := range l {
		if begins(x) && x.Name == "" {
			return false
		}
	}
	if len(l) == 1 {
		return l[0].Kind == api.TokEmpty
	}
	if len(l) == 0 || !isPair(l[0], l[len(l)-1]) {
		return false
	}
	rest := slices.DeleteFunc(slices.Clone(l[1:len(l)-1]), func(x api.Token) bool {
		return x.Kind == api.TokText || x.Kind == api.TokEmpty
	})
	for i := 0; i+1 < len(rest); {
		if isPair(rest[i], rest[i+1]) {
			rest = slices.Delete(rest, i, i+2)
			i = max(i-1, 0)
		} else {
			i++
		}
	}
	return len(rest) == 0
}

// isPair: whether a begins an element, and b ends one of that name.
func isPair(a, b api.Token) bool {
	return a.Kind == api.TokStart && b.Kind == api.TokEnd && a.Name == b.Name
}

// nodesOf: the nodes of l, which makes a tree.
func nodesOf(l []api.Token) []api.Node {
	var nodes []api.Node
	for i, x := range l {
		switch {
		case begins(x):
			nodes = append(nodes, api.Node{Name: x.Name, Attrs: x.Attrs, Up: parentOf(l, i)})
		case x.Kind == api.TokText:
			nodes = append(nodes, api.Node{Text: x.Text, Up: parentOf(l, i)})
		}
	}
	return nodes
}

// parentOf: the place, among nodes, of the nearest element ahead of the token at i whose end isn't ahead of it, too.
func parentOf(l []api.Token, i int) int {
	ended := 0
	for at := i - 1; at >= 0; at-- {
		switch l[at].Kind {
		case api.TokEnd:
			ended++
		case api.TokStart:
			if ended == 0 {
				return placeOf(l, at)
			}
			ended--
		}
	}
	return -1
}

// placeOf: how many nodes begin ahead of the token at i.
func placeOf(l []api.Token, i int) int {
	n := 0
	for _, x := range l[:i] {
		if x.Kind != api.TokEnd {
			n++
		}
	}
	return n
}

// kidsOf: the kids of each place, gathered as each node tells its own.
func kidsOf(l []api.Node) [][]int {
	kids := make([][]int, len(l))
	for at, x := range l {
		if x.Up != at && x.Up >= 0 && x.Up < len(l) {
			kids[x.Up] = append(kids[x.Up], at)
		}
	}
	return kids
}

// leads: whether the node at `at` is the one at i, or steps up lead from it to that one, over places alone; in a ring there are no more of them than places.
func leads(l []api.Node, at, i int) bool {
	for range len(l) {
		if at == i {
			return true
		}
		if at = l[at].Up; at < 0 || at >= len(l) {
			return false
		}
	}
	return false
}

// textOf: the text of the node at i, which may be no place.
func textOf(l []api.Node, i int) string {
	text := ""
	for at, x := range l {
		if x.Name == "" && leads(l, at, i) {
			text += x.Text
		}
	}
	return text
}
