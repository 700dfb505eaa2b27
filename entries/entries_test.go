package entries_test

import (
	"errors"
	"math"
	"slices"
	"strconv"
	"strings"
	"testing"

	"newsreel/api"
	"newsreel/sample"
)

const lots = sample.Lots

// What holds of RSS and of Atom alike; what is one's own, the tests of its layer ask.

func TestNoEntries(t *testing.T) {
	for _, d := range dialects() {
		for _, s := range []string{"", "item entry", "<title>x</title>", "<Item/><Entry/><items/><x:item/><x:entry/>", "<x>" + d.entry(d.guid("g")) + "</x>"} {
			l := d.document(t, s)
			for _, most := range []int{math.MinInt, -1, 0, 1, math.MaxInt} {
				d.read.Reads(t, l, 0, most)
				d.read.Reads(t, l, 1, most)
				for _, many := range []int{math.MinInt, math.MinInt + 1, -1 << 32, -2, -1} {
					d.read.Refuses(t, l, many, most, api.ErrLimit) // even none are more than that
				}
			}
		}
	}
}

func TestHowManyEntriesThereMayBe(t *testing.T) {
	for _, d := range dialects() {
		s := ""
		var want []api.Item
		for n := range 70 {
			l := d.document(t, s)
			for _, many := range []int{n, n + 1, 2*n + 1, 1 << 32, math.MaxInt - 1, math.MaxInt} {
				d.read.Reads(t, l, many, 2, want...)
			}
			for _, many := range []int{math.MinInt, math.MinInt + n, math.MinInt + n + 1, -1 << 32, -1<<32 + n, -n - 1, -1, n / 2, n - 1} {
				if many < n {
					d.read.Refuses(t, l, many, 2, api.ErrLimit)
				}
			}
			s += d.entry(d.guid(strconv.Itoa(n))) + "\n"
			want = append(want, d.item(strconv.Itoa(n)))
		}
	}
}

// one: an entry whose text of that number is written so, and says want, and what is read of it.
func (d dialect) one(i int, written, want string) (string, api.Item) {
	x := d.item("g")
	sample.Put(&x, i, want)
	if i == 0 {
		return d.entry(d.guid(written)), x
	}
	return d.entry(d.text(i, written), d.guid("g")), x
}

func TestHowLongTextsMayBe(t *testing.T) {
	for _, d := range dialects() {
		for i := range d.names {
			for _, n := range []int{2, 3, 10, 100, 255, 256} {
				long := strings.Repeat("x", n)
				s, x := d.one(i, long, long)
				l := d.document(t, d.entry(d.guid("1")), s)
				for _, most := range []int{n, n + 1, 2 * n, 1 << 32, math.MaxInt - 1, math.MaxInt} {
					d.read.Reads(t, l, 2, most, d.item("1"), x)
				}
				for _, most := range []int{math.MinInt, math.MinInt + n, -1 << 32, -1<<32 + n, -n, -1, 0, 1, n - 1} {
					d.read.Refuses(t, l, 2, most, api.ErrLimit)
				}
			}
		}
	}
}

func TestTextsThatHaveNothing(t *testing.T) {
	for _, d := range dialects() {
		l := d.document(t, d.entry(d.text(1, " "), d.text(2, ""), d.text(3, "&lt;br>")))
		for _, most := range []int{0, 1, math.MaxInt} {
			d.read.Refuses(t, l, 1, most, api.ErrEntry)
		}
		for _, most := range []int{math.MinInt, -1} {
			d.read.Refuses(t, l, 1, most, api.ErrLimit) // no text has fewer bytes than none
		}
		d.read.Refuses(t, d.document(t, d.entry(d.guid("g"))), 1, 0, api.ErrLimit)
	}
}

func TestHowLongAGuidMayBe(t *testing.T) {
	long := strings.Repeat("g", 257)
	for _, d := range dialects() {
		for _, n := range []int{1, 2, 255, 256} {
			for _, most := range []int{n, 256, 257, 1024, math.MaxInt} {
				d.read.Reads(t, d.document(t, d.entry(d.guid(long[:n]))), 1, most, d.item(long[:n]))
			}
		}
		for _, most := range []int{math.MinInt, -1, 0, 255, 256, 257, 258, 512, 513, 1024, 1 << 32, math.MaxInt} {
			d.read.Refuses(t, d.document(t, d.entry(d.guid(long))), 1, most, api.ErrLimit)
			d.read.Refuses(t, d.document(t, d.entry(d.guid(long+long))), 1, most, api.ErrLimit)
			d.read.Refuses(t, d.document(t, d.entry(d.guid("g")), d.entry(d.guid(long)), d.bare()), 3, most, api.ErrLimit)
		}
		for i := 1; i < len(d.names); i++ { // others aren't bound by it
			s, x := d.one(i, long+long, long+long)
			d.read.Reads(t, d.document(t, s), 1, 514, x)
		}
	}
}

// It is what the cleaned texts have that counts.
func TestLengthsBehindTheCleaning(t *testing.T) {
	blanks := strings.Repeat(" ", 1000)
	for _, d := range dialects() {
		for written, want := range map[string]string{
			"  x   y  ":                       "x y",
			"&lt;p class='none'>xyz&lt;/p>":   "xyz",
			"&amp;amp;&amp;#65;&amp;quot;":    "&A\"",
			"&#x20ac;":                        "\u20ac", // three bytes
			"\u00a0x\u00a0\u00a0y\u00a0":      "x y",
			blanks + "x&amp;#x20;&#x20;y\t\n": "x y",
		} {
			for i := range d.names {
				s, x := d.one(i, written, want)
				d.read.Reads(t, d.document(t, s), 1, 3, x)
				d.read.Refuses(t, d.document(t, s), 1, 2, api.ErrLimit)
			}
		}
		for n, most := range map[int]int{255: 255, 256: 256} {
			d.read.Reads(t, d.document(t, d.entry(d.guid(blanks+strings.Repeat("g", n)+blanks))), 1, most, d.item(strings.Repeat("g", n)))
			d.read.Reads(t, d.document(t, d.entry(d.guid(strings.Repeat("&amp;amp;", n)))), 1, most, d.item(strings.Repeat("&", n)))
		}
		d.read.Refuses(t, d.document(t, d.entry(d.guid(strings.Repeat("&amp;amp;", 257)))), 1, 300, api.ErrLimit)
		x := api.Item{Guid: "g", Date: seconds, Dated: true} // a date's own length is none of the texts'
		d.read.Reads(t, d.document(t, d.bare(d.guid("g"), sample.Markup(d.date, blanks, d.stamp))), 1, 1, x)
	}
}

// oddEntry: an entry in which that is wrong, and whether it is short by 3, and what may be.
type oddEntry struct {
	s           string
	short, good bool
}

func (d dialect) oddEntries() []oddEntry {
	wrong := sample.Markup(d.date, "x")
	l := []oddEntry{{d.entry(d.guid("abc")), true, true}, {d.entry(), true, false}, {d.bare(d.guid("a"), wrong), true, false}, {d.bare(sample.Markup(d.date), d.guid("a")), true, false}}
	if d.dated {
		l = append(l, oddEntry{d.bare(d.guid("a")), true, false})
	}
	for i := range d.names {
		l = append(l, oddEntry{d.bare(d.text(i, "long"), wrong), false, false})
		if i > 0 {
			l = append(l, oddEntry{d.entry(d.text(i, "long")), false, false}, oddEntry{d.entry(d.text(i, "long"), d.guid("a")), false, true})
		} else {
			l = append(l, oddEntry{d.entry(d.text(i, "long")), false, true})
		}
	}
	return l
}

// Of several errors that hold at once that one is told which the chapters name first, wherever it stands.
func TestOfSeveralErrorsTheFirst(t *testing.T) {
	for _, d := range dialects() {
		for row := range sample.Lists(d.oddEntries(), 3) {
			s, short, good := "", true, true
			for _, x := range row {
				s += x.s
				short, good = short && x.short, good && x.good
			}
			l := d.document(t, s)
			var want []api.Item
			code := api.ErrLimit
			switch {
			case short && good:
				want, code = slices.Repeat([]api.Item{d.item("abc")}, len(row)), api.OK
			case short:
				code = api.ErrEntry
			}
			d.read.Alike(t, l, len(row), 3, want, code)
			d.read.Alike(t, l, lots, 3, want, code)
			d.read.Refuses(t, l, len(row)-1, 3, api.ErrLimit)
			d.read.Refuses(t, l, -1, 3, api.ErrLimit)
			for _, root := range []string{"html", "Feed", "RSS"} {
				d.read.RefusesAlways(t, sample.Nodes(t, sample.Markup(root, s)), api.ErrFormat)
			}
		}
	}
}

func TestTheEntriesOrder(t *testing.T) {
	for _, d := range dialects() {
		s := ""
		var want []api.Item
		for i, m := range sample.Mixed(100) { // neither by their Guids nor by their dates
			name, stamp := strconv.FormatUint(m, 36), []string{d.epoch, d.stamp}[m>>20%2]
			s += d.bare(d.guid(name), sample.Markup(d.date, stamp))
			want = append(want, api.Item{Guid: name, Dated: true})
			if stamp == d.stamp {
				want[i].Date = seconds
			}
		}
		d.read.Reads(t, d.document(t, s), 100, 20, want...)
		s = d.entry(d.guid("a")) + d.entry(d.guid("b")) + d.entry(d.guid("a")) // the same again is an entry, too
		d.read.Reads(t, d.document(t, s), 3, 20, d.item("a"), d.item("b"), d.item("a"))
	}
}

// checkText: an entry whose text of that number is written so says want; without a Guid it is none.
func (d dialect) checkText(t *testing.T, i int, written, want string) {
	t.Helper()
	x, rest := d.item("g"), d.guid("g")
	if i == 0 {
		rest = ""
	}
	sample.Put(&x, i, want)
	for _, within := range []string{written + rest, rest + written, "<x/>" + rest + "y" + written + "z"} {
		l := d.document(t, d.entry(d.guid("1")), d.entry(within), d.entry(d.guid("2")))
		if x.Guid == "" {
			d.read.Refuses(t, l, 3, lots, api.ErrEntry)
		} else {
			d.read.Reads(t, l, 3, lots, d.item("1"), x, d.item("2"))
		}
	}
}

func TestEachOfTheTexts(t *testing.T) {
	for _, d := range dialects() {
		for i, name := range d.names {
			d.checkText(t, i, "", "")
			d.checkText(t, i, d.text(i, ""), "")
			d.checkText(t, i, d.text(i, "x"), "x")
			d.checkText(t, i, d.text(i, " \n\t\u00a0&lt;br> &lt;/p>"), "") // blanks and marks alone
			d.checkText(t, i, d.text(i, "x")+d.text(i, "y"), "x")
			d.checkText(t, i, d.text(i, "")+d.text(i, "y"), "")
			d.checkText(t, i, d.text(i, " ")+d.text(i, "y")+d.text(i, "z"), "")
			d.checkText(t, i, d.text(i, " x &lt;b>&amp;amp;&lt;/b>")+d.text(i, ""), "x &")
			d.checkText(t, i, "<x>"+d.text(i, "y")+"</x>", "")
			if name == "" {
				continue
			}
			d.checkText(t, i, "<"+name+"/>", "")
			d.checkText(t, i, "<"+name+"/>"+d.text(i, "x"), "")
			d.checkText(t, i, d.text(i, "a<x>b</x><![CDATA[<p>c]]>"), "ab c")
			d.checkText(t, i, sample.Markup(strings.ToUpper(name), "x"), "")
			d.checkText(t, i, sample.Markup("x:"+name, "x")+sample.Markup(name+"s", "y"), "")
			d.checkText(t, i, "<x "+name+"='y'/>", "")
		}
	}
}

func TestDates(t *testing.T) {
	for _, d := range dialects() {
		half := len(d.stamp) / 2
		for s, want := range map[string]int{
			d.stamp:                       seconds,
			d.epoch:                       0,       // dated, too
			" \n" + d.stamp + "\t":        seconds, // the field is cleaned
			"<![CDATA[" + d.stamp + "]]>": seconds,
			"&lt;b>" + d.stamp[:half] + "<x>" + d.stamp[half:] + "</x>&lt;/b>": seconds,
			"&amp;#" + strconv.Itoa(int(d.stamp[0])) + ";" + d.stamp[1:]:       seconds,
		} {
			one := sample.Markup(d.date, s)
			for _, within := range []string{one + d.guid("g"), d.guid("g") + one, d.guid("g") + one + "<" + d.date + "/>", one + d.guid("g") + sample.Markup(d.date, "none")} {
				d.read.Reads(t, d.document(t, d.bare(within), d.entry(d.guid("h"))), 2, 1, api.Item{Guid: "g", Date: want, Dated: true}, d.item("h"))
			}
		}
	}
}

func TestDatesThatAreNone(t *testing.T) {
	for _, d := range dialects() {
		for _, s := range []string{"", " ", "&lt;br>", "x", "0", d.stamp + ".", "x" + d.stamp, d.stamp + " " + d.stamp, d.stamp[1:]} {
			one := sample.Markup(d.date, s)
			for _, within := range []string{one + d.guid("g"), d.guid("g") + one, d.guid("g") + one + sample.Markup(d.date, d.stamp)} {
				for _, row := range [][]string{{d.bare(within)}, {d.bare(within), d.entry(d.guid("h"))}, {d.entry(d.guid("h")), d.bare(within)}} {
					d.read.Refuses(t, d.document(t, row...), 2, 1, api.ErrEntry)
					d.read.Refuses(t, d.document(t, row...), 0, 1, api.ErrLimit)
				}
			}
		}
		other := sample.Markup("x", sample.Markup(d.date, "none")) + sample.Markup(strings.ToUpper(d.date), "none")
		d.read.Reads(t, d.document(t, d.entry(d.guid("g"), other)), 1, 1, d.item("g"))
	}
}

// Each fault is a new one.
func TestFaultsShareNothing(t *testing.T) {
	for _, d := range dialects() {
		good := d.document(t, d.entry(d.guid("a")))
		for _, row := range []struct {
			l    []api.Node
			most int
			want api.Code
		}{{nil, 9, api.ErrFormat}, {good, 0, api.ErrLimit}, {d.document(t, d.entry(d.guid("a")), d.entry()), 9, api.ErrEntry}} {
			_, err := d.read(row.l, 9, row.most)
			var f *api.Fault
			if errors.As(err, &f) {
				f.At, f.Err = 7, api.ErrLong
			}
			d.read.Refuses(t, row.l, 9, row.most, row.want)
			d.read.Refuses(t, good, 0, 9, api.ErrLimit)
		}
	}
}

// given: nodes of documents that are read, and of some that aren't, with spare room, and attributes that have some.
func (d dialect) given(t *testing.T) [][]api.Node {
	t.Helper()
	s := sample.Markup("title", "x") + d.bare(d.guid("a"), d.text(1, "one"), d.text(2, " two "), d.text(3, "t&lt;b>h&lt;/b>ree"), sample.Markup(d.date, d.stamp)) + d.entry(d.guid("b"))
	var l [][]api.Node
	for _, more := range []string{"", d.entry(), d.entry(d.guid(strings.Repeat("g", 300))), d.bare(d.guid("c"), sample.Markup(d.date))} {
		l = append(l, sample.RoomyNodes(d.document(t, s, more)))
	}
	return append(l, sample.RoomyNodes(sample.Nodes(t, "<x>"+s+"</x>")), sample.RoomyNodes(d.document(t)))
}

// givenItems: the entries of the first document that is given.
func (d dialect) givenItems() []api.Item {
	return []api.Item{{Guid: "a", Title: "one", Link: "two", Body: "t h ree", Date: seconds, Dated: true}, d.item("b")}
}

func TestNodesAreNotChanged(t *testing.T) {
	for _, d := range dialects() {
		for _, l := range d.given(t) {
			before := sample.CopyNodes(l)
			for _, n := range []int{math.MinInt, -1, 0, 1, 2, 3, 300, math.MaxInt} {
				for _, limits := range [][2]int{{n, lots}, {lots, n}, {n, n}} {
					items, _ := d.read(l, limits[0], limits[1])
					spoil(items)
				}
				if !sample.SameNodes(sample.CopyNodes(l), before) {
					t.Fatalf("changed: %v, not %v", l[:cap(l)], before)
				}
			}
		}
	}
}

// spoil writes over all that was answered, its spare room too.
func spoil(l []api.Item) {
	for i := range l[:cap(l)] {
		l[:cap(l)][i] = api.Item{Guid: "spoilt"}
	}
}

func TestAnswersDoNotTurn(t *testing.T) {
	for _, d := range dialects() {
		l := d.given(t)[0]
		items, err := d.read(l, 2, 10)
		other, _ := d.read(l, 2, 10)
		sample.SpoilNodes(l)
		spoil(other)
		if err != nil || !slices.Equal(items, d.givenItems()) {
			t.Errorf("turned: %v, %v", items, err)
		}
	}
}

func TestNothingIsKept(t *testing.T) {
	for _, d := range dialects() {
		l := d.given(t)[0]
		for i, m := range sample.Mixed(300) {
			d.read(d.tangle(i%30, []uint64{m, m >> 3, m >> 7}, m%8), int(m>>20%4), int(m>>30%40))
			d.read.Reads(t, l, 2, 10, d.givenItems()...)
		}
	}
}
