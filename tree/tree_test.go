package tree_test

import (
	"errors"
	"iter"
	"math"
	"slices"
	"strconv"
	"strings"
	"testing"

	"newsreel/api"
	"newsreel/lex"
	"newsreel/sample"
	"newsreel/tree"
)

// The tokens that trees are made of.
var start, empty, end, text, attr = sample.Start, sample.Empty, sample.End, sample.Text, sample.Attr

// The nodes of trees, and lists of them.
var (
	element, words, sameNodes = sample.Element, sample.Words, sample.SameNodes
	deepNodes, spoil, away    = sample.CopyNodes, sample.SpoilNodes, sample.Away
)

// checkNodes: Build answers just these nodes of l.
func checkNodes(t *testing.T, l []api.Token, want ...api.Node) {
	t.Helper()
	if got, err := tree.Build(l); err != nil || !sameNodes(got, want) {
		t.Errorf("Build(%.300v): %.300v, %v, not %.300v", l, got, err, want)
	}
}

// checkNone: l makes no tree: Build answers an api.Fault of ErrForm and of no other Code, which tells no place, and no nodes.
func checkNone(t *testing.T, l ...api.Token) {
	t.Helper()
	got, err := tree.Build(l)
	if len(got) != 0 || err == nil {
		t.Errorf("Build(%.300v): %.300v, %v, not a fault", l, got, err)
		return
	}
	if at, amiss := sample.Fault(err, api.ErrForm); amiss != "" || at != 0 {
		t.Errorf("Build(%.300v): %v, %s, at %d, not of no place", l, err, amiss, at)
	}
}

// checkAlike: Build tells of l what the other way tells.
func checkAlike(t *testing.T, l []api.Token) {
	t.Helper()
	if isTree(l) {
		checkNodes(t, l, nodesOf(l)...)
	} else {
		checkNone(t, l...)
	}
}

// built: the nodes of l, which makes a tree.
func built(t *testing.T, l ...api.Token) []api.Node {
	t.Helper()
	nodes, err := tree.Build(l)
	if err != nil {
		t.Fatalf("Build(%.300v): %v", l, err)
	}
	return nodes
}

func checkKids(t *testing.T, l []api.Node, i int, want ...int) {
	t.Helper()
	if got := tree.Kids(l, i); !slices.Equal(got, want) {
		t.Errorf("Kids(%.300v, %d): %.300v, not %.300v", l, i, got, want)
	}
}

func checkNamed(t *testing.T, l []api.Node, i int, name string, want ...int) {
	t.Helper()
	if got := tree.Named(l, i, name); !slices.Equal(got, want) {
		t.Errorf("Named(%.300v, %d, %q): %.300v, not %.300v", l, i, name, got, want)
	}
}

func checkText(t *testing.T, l []api.Node, i int, want string) {
	t.Helper()
	if got := tree.Text(l, i); got != want {
		t.Errorf("Text(%.300v, %d): %.300q, not %.300q", l, i, got, want)
	}
}

func checkAttr(t *testing.T, x api.Node, name, want string, there bool) {
	t.Helper()
	if got, ok := tree.Attr(x, name); got != want || ok != there {
		t.Errorf("Attr(%v, %q): %q, %v, not %q, %v", x, name, got, ok, want, there)
	}
}

// checkAsked: Kids, Named and Text tell of l what the other way tells, at each place and away from all.
func checkAsked(t *testing.T, l []api.Node, names ...string) {
	t.Helper()
	for i, kids := range kidsOf(l) {
		checkKids(t, l, i, kids...)
		checkNamed(t, l, i, "")
		for _, name := range names {
			checkNamed(t, l, i, name, slices.DeleteFunc(slices.Clone(kids), func(at int) bool {
				return l[at].Name != name
			})...)
		}
		checkText(t, l, i, textOf(l, i))
	}
	for _, i := range away(len(l)) {
		checkKids(t, l, i)
		checkText(t, l, i, "")
		for _, name := range append(names, "") {
			checkNamed(t, l, i, name)
		}
	}
}

// checkWhole: the nodes of a tree hang together: the root alone has no parent, each parent stands ahead of its kids and is an element, and the text of each is that of its kids.
func checkWhole(t *testing.T, l []api.Node) {
	t.Helper()
	for i, x := range l {
		if (x.Up == -1) != (i == 0) || x.Up >= i || i > 0 && (x.Up < 0 || l[x.Up].Name == "") {
			t.Errorf("%.300v: the parent of %d is %d", l, i, x.Up)
		}
		if x.Name == "" {
			checkKids(t, l, i)
			checkText(t, l, i, x.Text)
			continue
		}
		whole := ""
		for _, at := range tree.Kids(l, i) {
			whole += tree.Text(l, at)
		}
		checkText(t, l, i, whole)
	}
}

func TestChapter(t *testing.T) {
	l := []api.Token{start("a"), text("x"), empty("b"), end("a")}
	checkNodes(t, l, element(-1, "a"), words(0, "x"), element(0, "b"))
	checkText(t, built(t, l...), 0, "x")
}

func TestListsOfOneToken(t *testing.T) {
	checkNone(t)
	checkNodes(t, []api.Token{empty("a")}, element(-1, "a"))
	checkNone(t, start("a"))
	checkNone(t, end("a"))
	checkNone(t, text("a"))
	checkNone(t, text(""))
	checkNone(t, end(""))
	checkNone(t, api.Token{})
	if nodes, err := tree.Build([]api.Token{}); len(nodes) != 0 || !errors.Is(err, api.ErrForm) {
		t.Errorf("of no token: %v, %v", nodes, err)
	}
}

func TestTwoEnds(t *testing.T) {
	checkNodes(t, []api.Token{start("a"), end("a")}, element(-1, "a"))
	checkNodes(t, []api.Token{start("a"), start("b"), end("b"), end("a")}, element(-1, "a"), element(0, "b"))
	checkNodes(t, []api.Token{start("a"), start("a"), end("a"), end("a")}, element(-1, "a"), element(0, "a"))
	checkNodes(t, []api.Token{start("1 <"), end("1 <")}, element(-1, "1 <")) // a name is what isn't empty
	checkNodes(t, []api.Token{start("\xff\x00"), empty(strings.Repeat("n", 1000)), end("\xff\x00")}, element(-1, "\xff\x00"), element(0, strings.Repeat("n", 1000)))
}

func TestElementsWithoutAName(t *testing.T) {
	for _, x := range []api.Token{start(""), empty(""), start("", attr("b", "c")), empty("", attr("b", "c")), {Kind: api.TokStart, Text: "a"}, {Kind: api.TokEmpty, Text: "a"}} {
		checkNone(t, x)
		checkNone(t, x, end(""))
		checkNone(t, x, text("x"), end(""))
		checkNone(t, x, end("a"))
		checkNone(t, start("a"), x, end("a"))
		checkNone(t, start("a"), x, end(""), end("a"))
		checkNone(t, start("a"), text("x"), empty("b"), x, end("a"))
		checkNone(t, start("a"), start("b"), x, end("b"), end("a"))
	}
}

// What a token has of no need is neither a fault nor in its node.
func TestFieldsOfNoNeed(t *testing.T) {
	attrs := []api.Attr{attr("c", "d")}
	odd := api.Token{Kind: api.TokText, Name: "n", Attrs: attrs, Text: "x"}
	last := api.Token{Kind: api.TokEnd, Name: "a", Attrs: attrs, Text: "z"}
	checkNodes(t, []api.Token{start("a"), odd, last}, element(-1, "a"), words(0, "x"))
	odd.Name = "a"
	checkNodes(t, []api.Token{start("a"), odd, end("a")}, element(-1, "a"), words(0, "x"))
	odd.Text = ""
	checkNodes(t, []api.Token{start("a"), odd, last}, element(-1, "a"), words(0, ""))
	checkNodes(t, []api.Token{{Kind: api.TokStart, Name: "a", Attrs: attrs, Text: "x"}, {Kind: api.TokEmpty, Name: "b", Text: "y"}, last}, element(-1, "a", attrs...), element(0, "b"))
	checkNodes(t, []api.Token{{Kind: api.TokEmpty, Name: "a", Text: "x"}}, element(-1, "a"))
	checkNone(t, start("a"), odd)
	checkNone(t, odd, last)
	checkNone(t, start("a"), start("n"), odd, last) // a text ends nothing, whatever its name
}

func TestEndsOfOtherNames(t *testing.T) {
	for _, name := range []string{"", "b", "A", "aa", "a ", " a", "ab", "a\x00", "ä"} {
		checkNone(t, start("a"), end(name))
		checkNone(t, start("a"), end(name), end("a"))
		checkNone(t, start("a"), text("x"), end(name))
		checkNone(t, start("a"), empty(name+"x"), end(name))
		checkNone(t, start("a"), start("c"), end(name), end("a"))
		checkNone(t, start("a"), start("c"), end("c"), end(name))
	}
	checkNone(t, start("aa"), end("a"))
	checkNone(t, start("a"), start("b"), end("a"), end("b")) // of an outer one's
	checkNone(t, start("a"), start("b"), end("a"))
	checkNone(t, start("a"), start("b"), start("c"), end("a"), end("c"), end("b"))
	checkNone(t, start("a"), start("b"), end("b"), end("b"), end("a")) // of one that has ended
	checkNone(t, start("a"), empty("b"), end("b"), end("a"))           // of one that is empty
	checkNone(t, start("a"), empty("b"), end("b"))
	checkNone(t, empty("a"), end("a"))
}

func TestBeforeTheRootAndBehindIt(t *testing.T) {
	roots := [][]api.Token{{empty("a")}, {start("a"), end("a")}, {start("a"), text("x"), empty("b"), end("a")}}
	for _, x := range []api.Token{text("x"), text(""), text(" "), end("a"), end("b"), end(""), {}, {Kind: 5, Name: "a"}, {Kind: api.TokText, Name: "a", Text: "x"}} {
		for _, root := range roots {
			checkNone(t, append([]api.Token{x}, root...)...)
			checkNone(t, append(slices.Clone(root), x)...)
			checkNone(t, append(slices.Clone(root), x, x)...)
		}
	}
	for _, root := range roots {
		for _, other := range roots {
			checkNone(t, append(slices.Clone(root), other...)...)
			checkNone(t, slices.Concat(root, other, root)...)
		}
		checkNone(t, append(slices.Clone(root), start("a"))...)
	}
}

func TestOpenAtLast(t *testing.T) {
	l := []api.Token{start("a"), text("x"), start("b"), start("c"), text("y"), end("c"), empty("d"), end("b"), text("z"), end("a")}
	checkNodes(t, l, element(-1, "a"), words(0, "x"), element(0, "b"), element(2, "c"), words(3, "y"), element(2, "d"), words(0, "z"))
	for i := range l {
		checkNone(t, l[:i]...)
		checkNone(t, l[i+1:]...)
	}
}

func TestOtherKinds(t *testing.T) {
	for _, kind := range []int{math.MinInt, math.MinInt + 1, math.MinInt + 4, -1 << 32, -1<<32 + 1, -4, -3, -2, -1, 0, 5, 6, 8, 255, 256, 257, 1 << 31, 1 << 32, 1<<32 + 1, 1<<32 + 2, 1<<32 + 3, 1<<32 + 4, math.MaxInt - 1, math.MaxInt} {
		for _, x := range []api.Token{{Kind: kind}, {Kind: kind, Name: "a"}, {Kind: kind, Text: "x"}, {Kind: kind, Name: "a", Attrs: []api.Attr{attr("b", "c")}, Text: "x"}} {
			checkNone(t, x)
			checkNone(t, x, end("a"))
			checkNone(t, x, empty("a"))
			checkNone(t, empty("a"), x)
			checkNone(t, start("a"), x)
			checkNone(t, start("a"), x, end("a"))
			checkNone(t, start("a"), text("x"), x, end("a"))
			checkNone(t, start("a"), start("a"), x, end("a"), end("a"))
			checkNone(t, start("a"), end("a"), x)
		}
	}
}

func TestTexts(t *testing.T) {
	checkNodes(t, []api.Token{start("a"), text(""), end("a")}, element(-1, "a"), words(0, ""))
	checkNodes(t, []api.Token{start("a"), text(""), text(""), text("x"), text(""), text("y"), text("x"), end("a")},
		element(-1, "a"), words(0, ""), words(0, ""), words(0, "x"), words(0, ""), words(0, "y"), words(0, "x"))
	checkNodes(t, []api.Token{start("a"), text(" \n<&\xff\x00ä"), end("a")}, element(-1, "a"), words(0, " \n<&\xff\x00ä"))
	l := built(t, start("a"), text("1"), start("b"), text("2"), text("3"), start("c"), text("4"), end("c"), text("5"), end("b"), empty("d"), text("6"), end("a"))
	if want := []api.Node{element(-1, "a"), words(0, "1"), element(0, "b"), words(2, "2"), words(2, "3"), element(2, "c"), words(5, "4"), words(2, "5"), element(0, "d"), words(0, "6")}; !sameNodes(l, want) {
		t.Errorf("%v, not %v", l, want)
	}
	for i, want := range []string{"123456", "1", "2345", "2", "3", "4", "4", "5", "", "6"} {
		checkText(t, l, i, want)
	}
	checkKids(t, l, 0, 1, 2, 8, 9)
	checkKids(t, l, 2, 3, 4, 5, 7)
	checkKids(t, l, 5, 6)
	checkKids(t, l, 8)
	checkNamed(t, l, 0, "b", 2)
	checkNamed(t, l, 0, "c")
	checkWhole(t, l)
}

func TestAttributesAreTheTokens(t *testing.T) {
	attrs := []api.Attr{attr("", ""), attr("b", "c"), attr("b", "d"), attr("1", "\xff"), attr("", "e")} // any, as raw tokens may have them
	checkNodes(t, []api.Token{empty("a", attrs...)}, element(-1, "a", attrs...))
	checkNodes(t, []api.Token{start("a", attrs[1:3]...), empty("a"), start("a", attrs...), end("a"), empty("b", attrs[:1]...), end("a")},
		element(-1, "a", attrs[1:3]...), element(0, "a"), element(0, "a", attrs...), element(0, "b", attrs[:1]...))
	var many []api.Attr
	for i := range 100 {
		many = append(many, attr("n"+strconv.Itoa(i), strconv.Itoa(i)))
	}
	checkNodes(t, []api.Token{start("a", many...), end("a")}, element(-1, "a", many...))
}

func TestAllShortLists(t *testing.T) {
	parts := []api.Token{start("a"), end("a"), start("b"), end("b"), empty("a"), text("x")}
	odd := []api.Token{start("a"), end("a"), empty("b", attr("c", "d")), text(""), start(""), empty(""), end(""), {Name: "a"}, {Kind: 5}, {Kind: -1}, {Kind: api.TokEnd, Name: "a", Text: "x"}, {Kind: api.TokText, Name: "a"}}
	for _, lists := range []iter.Seq[[]api.Token]{sample.Lists(parts, 6), sample.Lists(odd, 4)} {
		for l := range lists {
			checkAlike(t, l)
			checkAlike(t, slices.Concat([]api.Token{start("a")}, l, []api.Token{end("a")}))
			if t.Failed() {
				return
			}
		}
	}
}

// mixedTree: the tokens of a tree of some n elements and texts, by mixed numbers.
func mixedTree(n int, mixed []uint64) []api.Token {
	l := []api.Token{start("root")}
	open := []string{"root"}
	for i := range n {
		name := string(rune('a' + mixed[i%len(mixed)]>>8%3))
		switch mixed[i%len(mixed)] >> 32 % 5 {
		case 0:
			l = append(l, empty(name, attr("n", strconv.Itoa(i))))
		case 1:
			l = append(l, text(strconv.Itoa(i)+" "))
		case 2, 3:
			l = append(l, start(name))
			open = append(open, name)
		case 4:
			if last := len(open) - 1; last > 0 {
				l = append(l, end(open[last]))
				open = open[:last]
			}
		}
	}
	for _, name := range slices.Backward(open) {
		l = append(l, end(name))
	}
	return l
}

// P12.1 and P12.3 of mixed trees, and of those with one change.
func TestMixedTrees(t *testing.T) {
	mixed := sample.Mixed(4000)
	for turn := range 150 {
		l := mixedTree(turn/2, mixed[turn*20:])
		if !isTree(l) {
			t.Fatalf("no tree: %v", l)
		}
		checkAlike(t, l)
		nodes := built(t, l...)
		checkWhole(t, nodes)
		checkAsked(t, nodes, "root", "a", "b", "c", "d")
		for i := range l {
			checkAlike(t, slices.Delete(slices.Clone(l), i, i+1))
			checkAlike(t, l[:i])
			checkAlike(t, l[i:])
			for _, x := range []api.Token{start("a"), end("a"), empty("a"), text("x"), end("root"), {}} {
				checkAlike(t, slices.Insert(slices.Clone(l), i, x))
				other := slices.Clone(l)
				other[i] = x
				checkAlike(t, other)
			}
		}
		if t.Failed() {
			return
		}
	}
}

func TestDocuments(t *testing.T) {
	for s, want := range map[string]string{
		"<a/>":             "",
		"<a> <!----> </a>": "  ",
		"<?xml ?><rss><channel><title>A &amp; B</title><item><title>C</title></item><item/></channel></rss>": "A & BC",
		"<feed xmlns='x'>\n<entry><link href='y'/><id>z</id></entry>\n</feed>\n":                             "\nz\n",
	} {
		tokens, err := lex.Tokens(s, 10)
		if err != nil {
			t.Fatalf("%q: %v", s, err)
		}
		checkAlike(t, tokens)
		nodes := built(t, tokens...)
		checkWhole(t, nodes)
		checkText(t, nodes, 0, want)
	}
}

func TestNoNodes(t *testing.T) {
	for _, l := range [][]api.Node{nil, {}} {
		for _, i := range append(away(0), 1, 2) {
			checkKids(t, l, i)
			checkNamed(t, l, i, "a")
			checkNamed(t, l, i, "")
			checkText(t, l, i, "")
		}
	}
}

// A node that is its own parent is no kid of its own; its text is within it once.
func TestNodesThatAreTheirOwnParents(t *testing.T) {
	l := []api.Node{element(0, "a"), words(1, "x"), element(0, "b"), words(0, "y"), words(2, "z"), words(1, "w")}
	checkKids(t, l, 0, 2, 3)
	checkKids(t, l, 1, 5)
	checkNamed(t, l, 0, "a")
	checkNamed(t, l, 0, "b", 2)
	checkText(t, l, 0, "yz")
	checkText(t, l, 1, "xw")
	checkText(t, l, 2, "z")
	checkAsked(t, l, "a", "b")
	for _, x := range []api.Node{words(0, "x"), words(-1, "x"), words(1, "x"), words(math.MaxInt, "x"), words(math.MinInt, "x")} {
		checkKids(t, []api.Node{x}, 0)
		checkText(t, []api.Node{x}, 0, "x")
	}
}

// An Up that is no place leads nowhere, and not to i that is no place, either.
func TestParentsThatAreNoPlaces(t *testing.T) {
	for _, up := range away(3) {
		l := []api.Node{element(-1, "a"), element(up, "a"), words(up, "x")}
		for _, i := range append(away(3), up) {
			checkKids(t, l, i)
			checkNamed(t, l, i, "a")
			checkText(t, l, i, "")
		}
		checkKids(t, l, 0)
		checkText(t, l, 0, "")
		checkText(t, l, 2, "x")
		checkAsked(t, l, "a")
	}
}

func TestParentsBehindTheirKids(t *testing.T) {
	l := []api.Node{words(2, "x"), words(3, "y"), element(4, "b"), element(2, "c"), element(-1, "a"), words(4, "z")}
	checkKids(t, l, 4, 2, 5)
	checkKids(t, l, 2, 0, 3)
	checkKids(t, l, 3, 1)
	checkNamed(t, l, 4, "b", 2)
	checkNamed(t, l, 2, "c", 3)
	checkText(t, l, 4, "xyz") // in the order of the list
	checkText(t, l, 2, "xy")
	checkText(t, l, 3, "y")
	l = []api.Node{words(3, "1"), words(2, "2"), element(3, "b"), element(3, "a"), words(2, "3"), words(3, "4")}
	checkText(t, l, 3, "1234") // though the kid b has 2 and 3 alone
	checkText(t, l, 2, "23")
}

func TestRings(t *testing.T) {
	l := []api.Node{element(2, "a"), element(0, "b"), element(1, "c"), words(1, "x"), words(5, "y"), words(4, "z"), words(0, "w"), words(6, "v"), words(4, "u")}
	for i := range 3 {
		checkText(t, l, i, "xwv") // each of a ring stands within each
	}
	for i := 4; i < 6; i++ {
		checkText(t, l, i, "yzu")
	}
	checkText(t, l, 3, "x")
	checkText(t, l, 6, "wv")
	checkText(t, l, 8, "u")
	checkKids(t, l, 0, 1, 6)
	checkKids(t, l, 4, 5, 8)
	checkNamed(t, l, 0, "b", 1)
	checkNamed(t, l, 0, "a")
	checkAsked(t, l, "a", "b", "c")
}

func TestNamesAndNodesOfNone(t *testing.T) {
	l := []api.Node{element(-1, "a"), words(0, "x"), element(0, "b"), element(0, "a"), element(0, "B"), element(0, "bb"), element(0, "b"), element(2, "b"), words(0, "b"), {Up: 0, Attrs: []api.Attr{attr("b", "b")}}}
	checkNamed(t, l, 0, "b", 2, 6)
	checkNamed(t, l, 0, "a", 3)
	checkNamed(t, l, 0, "B", 4)
	checkNamed(t, l, 0, "bb", 5)
	checkNamed(t, l, 2, "b", 7)
	for _, name := range []string{"", "c", "x", " b", "b ", "b\x00", "A"} {
		checkNamed(t, l, 0, name)
	}
	checkNamed(t, l, 1, "a")
	checkNamed(t, l, 1, "")
}

// Nodes that have both a name and a text, or kids and no name, as no tree has them.
func TestTextsOfOddNodes(t *testing.T) {
	l := []api.Node{{Name: "a", Text: "1", Up: -1}, {Text: "2", Up: 0}, {Name: "b", Text: "3", Up: 0}, {Text: "4", Up: 1}, {Text: "5", Up: 2}, {Text: "6", Up: 3, Attrs: []api.Attr{attr("c", "d")}}, {Text: "7", Up: -1}}
	for i, want := range []string{"2456", "246", "5", "46", "5", "6", "7"} {
		checkText(t, l, i, want)
	}
	checkAsked(t, l, "a", "b")
}

func TestAllShortListsOfNodes(t *testing.T) {
	const most = 4
	var parts []api.Node
	for up := -2; up <= most; up++ {
		parts = append(parts, words(up, ""), element(up, "a"))
	}
	for l := range sample.Lists(parts, most) {
		for i := range l {
			l[i].Text = strconv.Itoa(i)
		}
		for i := -2; i < most+2; i++ {
			checkText(t, l, i, textOf(l, max(i, -1)))
		}
		for i, kids := range kidsOf(l) {
			checkKids(t, l, i, kids...)
		}
		if t.Failed() {
			return
		}
	}
}

func TestMixedLists(t *testing.T) {
	mixed := sample.Mixed(30000)
	for turn := range 600 {
		n := turn / 8
		var l []api.Node
		for i := range n {
			m := mixed[turn*37+i]
			x := api.Node{Name: []string{"", "", "a", "b", "ab"}[m>>8%5], Text: strconv.Itoa(i) + " ", Up: int(m>>32%uint64(n+3)) - 2}
			if turn%2 == 1 && i > 0 && m>>20%8 > 0 {
				x.Up = int(m >> 40 % uint64(i)) // parents that are mostly ahead
			}
			l = append(l, x)
		}
		checkAsked(t, l, "a", "b", "ab", "c")
		if t.Failed() {
			return
		}
	}
}

func TestAttr(t *testing.T) {
	x := element(0, "a", attr("b", "1"), attr("c", ""), attr("b", "2"), attr("c", "3"), attr("", "4"), attr("", "5"), attr("B", "6"), attr("d", "\xff<"))
	checkAttr(t, x, "b", "1", true)
	checkAttr(t, x, "c", "", true) // it is there, with nothing
	checkAttr(t, x, "", "4", true)
	checkAttr(t, x, "B", "6", true)
	checkAttr(t, x, "d", "\xff<", true)
	for _, name := range []string{"a", "C", "D", "bb", "b ", " b", "1", "b\x00", "\xff"} {
		checkAttr(t, x, name, "", false)
	}
	for _, x := range []api.Node{{}, element(-1, "b"), words(0, "b"), {Name: "b", Text: "b", Attrs: []api.Attr{}}} {
		checkAttr(t, x, "b", "", false)
		checkAttr(t, x, "", "", false)
	}
	checkAttr(t, element(0, "a", attr("b", "1")), "", "", false)
	checkAttr(t, api.Node{Text: "x", Attrs: []api.Attr{attr("b", "1")}, Up: 7}, "b", "1", true) // of a node without a name, too
	checkAttr(t, element(0, "a", attr("b", "b"), attr("c", "1"), attr("b", "2")), "c", "1", true)
}

// deepTokens: a copy of l, its spare room and its attributes' among it, to hold l against later.
func deepTokens(l []api.Token) []api.Token {
	c := slices.Clone(l[:cap(l)])
	for i := range c {
		c[i].Attrs = slices.Clone(c[i].Attrs[:cap(c[i].Attrs)])
	}
	return c
}

// given: lists of tokens, of a tree and of none, that have spare room, and attributes that do.
func given() [][]api.Token {
	attrs := sample.Roomy([]api.Attr{attr("b", "1"), attr("c", "2")}, attr("spare", "3"))
	l := []api.Token{start("a", attrs...), text("x"), empty("a", attrs[:1]...), empty("b", attrs...), empty("c", attrs[:0]...), end("a")}
	l[0].Attrs, l[2].Attrs, l[3].Attrs, l[4].Attrs = attrs, attrs[:1], attrs, attrs[:0]
	spare := empty("spare", attr("spare", "4"))
	return [][]api.Token{sample.Roomy(l, spare), sample.Roomy(l[:4], spare), sample.Roomy(l[2:3], spare), sample.Roomy(l[:0], spare), sample.Roomy(append(slices.Clone(l), text("y")), spare)}
}

func TestTokensAreNotChanged(t *testing.T) {
	for _, l := range given() {
		before := deepTokens(l)
		nodes, _ := tree.Build(l)
		if !sample.SameTokens(deepTokens(l), before) {
			t.Errorf("changed: %v, not %v", l[:cap(l)], before)
		}
		spoil(nodes) // nor by what becomes of the answer
		if !sample.SameTokens(deepTokens(l), before) {
			t.Errorf("shared with an answer: %v, not %v", l[:cap(l)], before)
		}
	}
}

func TestNodesAreNotTheTokens(t *testing.T) {
	for _, l := range given() {
		nodes, err := tree.Build(l)
		other, _ := tree.Build(l)
		before := deepNodes(nodes)
		for i := range l {
			attrs := l[i].Attrs[:cap(l[i].Attrs)]
			for k := range attrs {
				attrs[k] = attr("spoilt", "spoilt")
			}
			l[i] = text("spoilt")
		}
		if !sameNodes(deepNodes(nodes), before) {
			t.Errorf("changed with the tokens: %v, not %v", nodes, before)
		}
		spoil(other)
		if !sameNodes(deepNodes(nodes), before) {
			t.Errorf("changed with another answer: %v, not %v", nodes, before)
		}
		if err != nil && len(nodes) != 0 {
			t.Errorf("beside %v: %v", err, nodes)
		}
	}
}

func TestNoTwoListsShareMemory(t *testing.T) {
	nodes := built(t, given()[0]...)
	want := deepNodes(nodes)
	for i := range nodes {
		nodes[i].Attrs = append(nodes[i].Attrs, attr("x", "0"), attr("y", "0"))
		for k := range nodes[i].Attrs {
			nodes[i].Attrs[k].Value += "#" + strconv.Itoa(i)
		}
	}
	for i, x := range nodes {
		for k, a := range x.Attrs {
			before := "0"
			if k < len(x.Attrs)-2 {
				before = want[i].Attrs[k].Value
			}
			if a.Value != before+"#"+strconv.Itoa(i) {
				t.Errorf("attribute %d of node %d: %q", k, i, a.Value)
			}
		}
	}
}

// Each fault is a new one.
func TestFaultsShareNothing(t *testing.T) {
	for _, l := range [][]api.Token{nil, {start("a")}, {text("x")}, {start("a"), end("b")}, {empty("a"), empty("a")}} {
		_, one := tree.Build(l)
		var f *api.Fault
		if errors.As(one, &f) {
			f.At, f.Err = 7, api.ErrLong
		}
		checkNone(t, l...)
		checkNone(t)
	}
}

// What Kids, Named and Text answer is new memory, and nothing of the list is changed.
func TestAsksChangeNothing(t *testing.T) {
	l := sample.Roomy(built(t, given()[0]...), words(0, "spare"))
	before := deepNodes(l)
	for _, i := range append(away(len(l)), 0, 1, 2, 3, 4) {
		for range 2 {
			kids, named, s := tree.Kids(l, i), tree.Named(l, i, "b"), tree.Text(l, i)
			other, others := tree.Kids(l, i), tree.Named(l, i, "b")
			for _, list := range [][]int{other, others} {
				for k := range list[:cap(list)] {
					list[:cap(list)][k] = -7
				}
			}
			if want := []int{1, 2, 3, 4}; i == 0 && (!slices.Equal(kids, want) || !slices.Equal(named, []int{3}) || s != "x") {
				t.Errorf("changed with another answer: %v, %v, %q", kids, named, s)
			}
		}
		if !sameNodes(deepNodes(l), before) {
			t.Errorf("changed at %d: %v, not %v", i, l[:cap(l)], before)
		}
	}
	for _, x := range l {
		tree.Attr(x, "b")
		tree.Attr(x, "nope")
	}
	if !sameNodes(deepNodes(l), before) {
		t.Errorf("changed: %v, not %v", l[:cap(l)], before)
	}
}

func TestTextsDoNotTurnWithTheList(t *testing.T) {
	l := built(t, start("a", attr("b", "c")), text("x"), text("y"), end("a"))
	kids, s := tree.Kids(l, 0), tree.Text(l, 0)
	one := tree.Text(l, 1)
	value, _ := tree.Attr(l[0], "b")
	spoil(l)
	if !slices.Equal(kids, []int{1, 2}) || s != "xy" || one != "x" || value != "c" {
		t.Errorf("turned: %v, %q, %q, %q", kids, s, one, value)
	}
}

func TestNothingIsKept(t *testing.T) {
	l := []api.Token{start("a"), text("x"), empty("b"), end("a")}
	want := built(t, l...)
	for i, turn := range sample.Mixed(200) {
		other := mixedTree(i%20, []uint64{turn, turn >> 3, turn >> 7})
		tree.Build(other[:int(turn>>40)%len(other)])
		nodes := built(t, other...)
		tree.Text(nodes, i%len(nodes))
		checkNodes(t, l, want...)
		checkText(t, want, 0, "x")
		checkKids(t, want, 0, 1, 2)
	}
}

// A row of elements in one another, each with a text on either side of the next one.
func TestManyElementsInOneAnother(t *testing.T) {
	const n = 1 << 14
	var l []api.Token
	var ahead, behind strings.Builder
	for range n {
		l = append(l, start("a"), text("<"))
		ahead.WriteString("<")
	}
	for range n {
		l = append(l, text(">"), end("a"))
		behind.WriteString(">")
	}
	nodes := built(t, l...)
	if len(nodes) != 3*n {
		t.Fatalf("%d nodes, not %d", len(nodes), 3*n)
	}
	for i := range n {
		deepest, up := element(2*i-2, "a"), 2*i
		if i == 0 {
			deepest.Up = -1
		}
		if !sameNodes(nodes[2*i:2*i+2], []api.Node{deepest, words(up, "<")}) || !sameNodes(nodes[3*n-1-i:3*n-i], []api.Node{words(up, ">")}) {
			t.Fatalf("element %d: %v", i, nodes[2*i:2*i+2])
		}
	}
	checkText(t, nodes, 0, ahead.String()+behind.String())
	checkText(t, nodes, n, ahead.String()[n/2:]+behind.String()[n/2:])
	checkText(t, nodes, 2*n-2, "<>")
	checkKids(t, nodes, 0, 1, 2, 3*n-1)
	checkKids(t, nodes, 2*n-2, 2*n-1, 2*n)
	checkNone(t, l[:4*n-1]...)
	checkNone(t, l[1:]...)
	checkNone(t, append(l, end("a"))...)
}

// Elements in one another without anything between, as many as may be.
func TestElementsInOneAnotherAlone(t *testing.T) {
	for _, n := range []int{1 << 15, 1 << 16} {
		l := slices.Concat(slices.Repeat([]api.Token{start("a")}, n), slices.Repeat([]api.Token{end("a")}, n))
		nodes := built(t, l...)
		for i, x := range nodes {
			if x.Up != i-1 || x.Name != "a" {
				t.Fatalf("node %d: %v", i, x)
			}
		}
		checkText(t, nodes, 0, "")
		checkKids(t, nodes, n-2, n-1)
		checkKids(t, nodes, n-1)
		checkNone(t, l[:n]...)
		checkNone(t, l[:2*n-1]...)
		checkNone(t, l[n:]...)
	}
}

func TestManyKidsOfOneElement(t *testing.T) {
	const n = 1 << 16
	l := []api.Token{start("a")}
	want := []api.Node{element(-1, "a")}
	var all, named []int
	for i := 1; len(l) < n-1; i++ {
		if i%2 == 0 {
			l, want = append(l, empty("b")), append(want, element(0, "b"))
			named = append(named, i)
		} else {
			l, want = append(l, text("x")), append(want, words(0, "x"))
		}
		all = append(all, i)
	}
	l = append(l, end("a"))
	checkNodes(t, l, want...)
	checkKids(t, want, 0, all...)
	checkNamed(t, want, 0, "b", named...)
	checkText(t, want, 0, strings.Repeat("x", n/2-1))
	checkKids(t, want, n-2)
	checkText(t, want, n-2, "")
	checkNone(t, l[:n-1]...)
	checkNone(t, l[1:]...)
}

// TestTimeGrowsAsTheList: lists so long that a walk of its own from each node, or a copy of the text at each, would not come to its end within a test.
func TestTimeGrowsAsTheList(t *testing.T) {
	const n = 1 << 20
	whole := strings.Repeat("x", n)
	for _, row := range []struct {
		up          func(i int) int
		first, last string
	}{
		{func(i int) int { return i - 1 }, whole, "x"},
		{func(i int) int { return i + 1 }, "x", whole},
		{func(i int) int { return (i + 1) % n }, whole, whole}, // a ring of all
		{func(i int) int { return (i + n - 1) % n }, whole, whole},
		{func(i int) int { return i - 1 + 2*((n-1-i)/(n-1)) }, whole, "x"}, // the first two in a ring
		{func(i int) int { return i + 1 - 2*(i/(n-1)) }, "x", whole},       // the last two
		{func(i int) int { return 0 }, whole, "x"},
		{func(i int) int { return n - 1 }, "x", whole},
		{func(i int) int { return i }, "x", "x"},
	} {
		l := make([]api.Node, n)
		for i := range l {
			l[i] = words(row.up(i), "x")
		}
		if first, last := tree.Text(l, 0), tree.Text(l, n-1); first != row.first || last != row.last {
			t.Errorf("%v .. %v: texts of %d and %d bytes, not %d and %d", l[:3], l[n-3:], len(first), len(last), len(row.first), len(row.last))
		}
		tree.Kids(l, n/2)
	}
}

// Each byte is a token, or, by its other bits, a node: any lists.
func FuzzTree(f *testing.F) {
	f.Add([]byte{0, 3, 4, 1}, 0)
	f.Add([]byte{0, 8, 3, 4, 12, 9, 1}, 2)
	f.Add([]byte{}, -1)
	f.Fuzz(func(t *testing.T, b []byte, i int) {
		b = b[:min(len(b), 200)]
		var tokens []api.Token
		var nodes []api.Node
		for _, c := range b {
			name := []string{"a", "b", "", "a b"}[c>>3%4]
			tokens = append(tokens, api.Token{Kind: int(c)%8 - 1, Name: name, Text: strconv.Itoa(int(c))})
			nodes = append(nodes, api.Node{Name: name, Text: strconv.Itoa(int(c)), Up: int(int8(c))})
		}
		checkAlike(t, tokens)
		checkAlike(t, slices.Concat([]api.Token{start("a")}, tokens, []api.Token{end("a")}))
		checkAsked(t, nodes, "a", "b")
		checkKids(t, nodes, min(i, -1))
		checkText(t, nodes, min(i, -1), "")
	})
}
