package feed_test

import (
	"errors"
	"slices"
	"testing"

	"newsreel/api"
	"newsreel/atom"
	"newsreel/feed"
	"newsreel/lex"
	"newsreel/rss"
	"newsreel/sample"
	"newsreel/tree"
)

// The layer told another way: all that is wrong is gathered, and each of the layers below is asked.

// bounds: how great each of a document's numbers may be: Doc, Depth, DocEntries, Field.
var bounds = [4]int{65536, 64, 64, 1024}

// plain: the entries of s by p, and all that is wrong, in the order of the chapter.
func plain(s string, p api.Params) (items []api.Item, wrong []error) {
	for i, n := range []int{p.Doc, p.Depth, p.DocEntries, p.Field} {
		if n <= 0 || n > bounds[i] {
			wrong = append(wrong, api.ErrArg)
		}
	}
	if len(s) > p.Doc {
		wrong = append(wrong, api.ErrLong)
	}
	tokens, err := lex.Tokens(s, p.Depth)
	if err != nil {
		return nil, append(wrong, err)
	}
	nodes, err := tree.Build(tokens)
	if err != nil {
		return nil, append(wrong, err)
	}
	if nodes[0].Name == "feed" {
		items, err = atom.Items(nodes, p.DocEntries, p.Field)
	} else {
		items, err = rss.Items(nodes, p.DocEntries, p.Field)
	}
	if err != nil {
		wrong = append(wrong, err)
	}
	return items, wrong
}

// checkAlike: of s is told what the other way tells.
func checkAlike(t *testing.T, s string, p api.Params) {
	t.Helper()
	items, wrong := plain(s, p)
	if len(wrong) == 0 {
		checkItems(t, s, p, items...)
		return
	}
	var code api.Code
	if !errors.As(wrong[0], &code) {
		t.Fatalf("Parse(%.200q, %v): %v has no Code", s, p, wrong[0])
	}
	f := checkFault(t, s, p, code)
	var below *api.Fault
	if f == nil || !errors.As(wrong[0], &below) {
		return
	}
	if f.At != below.At || !slices.Equal(places(f.Err), places(wrong[0])) {
		t.Errorf("Parse(%.200q, %v): at %d, within at %v, not at %d, %v", s, p, f.At, places(f.Err), below.At, places(wrong[0]))
	}
}

// places: those that the faults of e tell of, the outermost one first.
func places(e error) []int {
	var l []int
	for f := new(api.Fault); errors.As(e, &f); e = f.Err {
		l = append(l, f.At)
	}
	return l
}

// checkItems: s has just these entries.
func checkItems(t *testing.T, s string, p api.Params, want ...api.Item) {
	t.Helper()
	if got, err := feed.Parse(s, p); err != nil || !slices.Equal(got, want) {
		t.Errorf("Parse(%.200q, %v): %v, %v, not %v", s, p, sample.FewItems(got), err, sample.FewItems(want))
	}
}

// checkFault: the answer is an api.Fault that wraps that Code and no other one, and no entries. What a layer below tells of is wrapped in it once more; else it tells no place.
func checkFault(t *testing.T, s string, p api.Params, want api.Code) *api.Fault {
	t.Helper()
	got, err := feed.Parse(s, p)
	if len(got) != 0 || err == nil {
		t.Errorf("Parse(%.200q, %v): %v, %v, not %v", s, p, sample.FewItems(got), err, want)
		return nil
	}
	at, amiss := sample.Fault(err, want)
	if amiss != "" || at < 0 || at > len(s) || feed.Code(err) != want || err.Error() != want.Error() {
		t.Errorf("Parse(%.200q, %v): %v, %s, at %d, Code %v, not %v", s, p, err, amiss, at, feed.Code(err), want)
		return nil
	}
	var f *api.Fault
	errors.As(err, &f)
	if want == api.ErrArg || want == api.ErrLong {
		if at != 0 {
			t.Errorf("Parse(%.200q, %v): %v at %d, of no place", s, p, err, at)
		}
		return f
	}
	if at, amiss := sample.Fault(f.Err, want); amiss != "" || at != f.At {
		t.Errorf("Parse(%.200q, %v): at %d %s within, at %d", s, p, f.At, amiss, at)
	}
	return f
}

// put: p with that one of a document's numbers.
func put(p api.Params, i, n int) api.Params {
	*[]*int{&p.Doc, &p.Depth, &p.DocEntries, &p.Field}[i] = n
	return p
}

// greatest: numbers that may be, as great as may be.
func greatest() api.Params {
	return api.Params{Doc: bounds[0], Depth: bounds[1], DocEntries: bounds[2], Field: bounds[3]}
}
