package feed_test

import (
	"strconv"
	"strings"
	"testing"

	"newsreel/api"
	"newsreel/sample"
)

// Documents of as many bytes as may be.

const whole = 65536

// filled: a document of just so many bytes, of those ahead and behind, and as many of the others as there is room for.
func filled(n int, ahead, one, behind string) string {
	room := n - len(ahead) - len(behind)
	return ahead + repeat(one, room/len(one)) + repeat(" ", room%len(one)) + behind
}

// split: what stands ahead of a document's entries, and behind.
func (k kind) split() (string, string) {
	ahead, behind, _ := strings.Cut(k.doc("|"), "|")
	return ahead, behind
}

// checkWhole: s has just as many bytes as may be; with one more it is too long, whatever else it is.
func checkWhole(t *testing.T, s string) {
	t.Helper()
	if len(s) != whole {
		t.Fatalf("%d bytes: %.200q", len(s), s)
	}
	checkFault(t, s+" ", greatest(), api.ErrLong)
	checkFault(t, " "+s, greatest(), api.ErrLong)
	checkFault(t, s, put(greatest(), 0, whole-1), api.ErrLong)
	checkAlike(t, s, greatest())
}

// As many entries as may be, in a document that they fill.
func TestManyEntriesOfAWholeDocument(t *testing.T) {
	for _, k := range kinds {
		ahead, behind := k.split()
		s := ahead
		var want []api.Item
		for i := range 64 {
			x := item("g" + strconv.Itoa(i))
			x.Body = repeat("b", 850)
			s += k.entry(x.Guid, k.text(3, x.Body))
			want = append(want, x)
		}
		good := filled(whole, s, " ", behind)
		checkItems(t, good, greatest(), want...)
		checkFault(t, good, put(greatest(), 2, 63), api.ErrLimit)
		checkFault(t, good, put(greatest(), 3, 849), api.ErrLimit)
		checkWhole(t, good)

		more := filled(whole, s+k.entry("more"), " ", behind)
		checkFault(t, more, greatest(), api.ErrLimit)
		checkWhole(t, more)

		most := filled(whole, ahead, "<"+k.name+"/>", behind) // as many as there is room for
		checkFault(t, most, greatest(), api.ErrLimit)
		checkWhole(t, most)
		other := filled(whole, ahead+k.entry("g"), "<x/>", behind)
		checkItems(t, other, greatest(), item("g"))
		checkWhole(t, other)
	}
}

// One entry with one text that fills the document.
func TestOneLongTextOfAWholeDocument(t *testing.T) {
	for _, k := range kinds {
		ahead, behind := k.split()
		begin, end := ahead+"<"+k.name+">"+k.date, "</"+k.name+">"+behind
		for i, name := range k.texts {
			if i > 0 {
				begin = ahead + "<" + k.name + ">" + k.date + k.text(0, "g")
			}
			open, shut := "<"+name+">", "</"+name+">"
			if name == "" {
				open, shut = `<link href="`, `"/>`
			}
			x := item("g")
			for one, want := range map[string]string{"x": "", "\u20ac": "", "&amp;": "", " ": "y", "&#32;": "y", "\u00a0": "y", "&lt;br>": "y"} {
				s := filled(whole, begin+open, one, "y"+shut+end)
				checkWhole(t, s)
				if want == "" { // it stays long
					checkFault(t, s, greatest(), api.ErrLimit)
					continue
				}
				sample.Put(&x, i, want)
				checkItems(t, s, greatest(), x)
			}
		}
		for _, s := range []string{filled(whole, begin+"<!--", "x", "-->"+end), filled(whole, begin+"<x>", "x", "</x>"+end), filled(whole, begin+"<x><![CDATA[", "]", "]]></x>"+end), filled(whole, begin+"<x a='", "x", "'/>"+end)} { // long, but no text of the entry's
			checkItems(t, s, greatest(), item("g"))
			checkWhole(t, s)
		}
	}
}

// Elements in one another, as deep as may be, and deeper.
func TestDeepElementsOfAWholeDocument(t *testing.T) {
	for _, k := range kinds {
		ahead, behind := k.split()
		room := 64 - len(k.around)
		deep := filled(whole, ahead+k.entry("g"), nest(room), behind)
		checkItems(t, deep, greatest(), item("g"))
		checkFault(t, deep, put(greatest(), 1, 63), api.ErrDepth)
		checkWhole(t, deep)

		within := filled(whole, ahead, " ", "<"+k.name+">"+k.date+k.text(0, repeat("<x>", room-2)+"g"+repeat("</x>", room-2))+"</"+k.name+">"+behind)
		checkItems(t, within, greatest(), item("g"))
		checkFault(t, within, put(greatest(), 1, 63), api.ErrDepth)
		checkWhole(t, within)

		deeper := filled(whole, ahead+k.entry("g"), " ", nest(room+1)+behind)
		checkFault(t, deeper, greatest(), api.ErrDepth)
		checkWhole(t, deeper)
		open := filled(whole, ahead, "<x>", "")
		checkFault(t, open, greatest(), api.ErrDepth)
		checkFault(t, "<"+open[1:whole/2], greatest(), api.ErrDepth)
		checkWhole(t, open)
	}
	for _, name := range []string{"feed", "rss", "x", "a"} {
		s := filled(whole, "", "<"+name+">", "")
		f := checkFault(t, s, greatest(), api.ErrDepth)
		if f != nil && f.At != 64*(len(name)+2) {
			t.Errorf("%s: at %d", name, f.At)
		}
		checkWhole(t, s)
		checkFault(t, s[:64*(len(name)+2)], greatest(), api.ErrSyntax)
	}
}
