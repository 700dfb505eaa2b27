package print_test

import (
	"strconv"
	"strings"
	"testing"

	"newsreel/api"
	"newsreel/print"
	"newsreel/sample"
)

// Long lists and long texts, longer than layer 16 reads; layers 11 to 15 do.

// checkReadBelow: layers 11 to 15 read of the document of l what is told of it.
func (k kind) checkReadBelow(t *testing.T, l ...api.Item) {
	t.Helper()
	want, code := k.told(l, sample.Lots, sample.Lots)
	nodes := sample.Nodes(t, k.write(l))
	if code != api.OK {
		k.read.Refuses(t, nodes, sample.Lots, sample.Lots, code)
	} else {
		k.read.ReadsBy(t, nodes, sample.Lots, sample.Lots, want...)
	}
}

func TestManyEntries(t *testing.T) {
	const n = 1 << 16
	unlike, same := make([]api.Item, n), make([]api.Item, n)
	for i := range n {
		s := strconv.Itoa(i)
		unlike[i] = api.Item{Guid: s, Title: "<b>" + s, Link: "http://a/?b&" + s, Body: "\n" + s + " & more", Date: i * 3661, Dated: true}
		same[i] = api.Item{Guid: "g", Dated: i%2 > 0}
	}
	for _, k := range kinds() {
		k.checkWritten(t, make([]api.Item, n)...)
		k.checkWritten(t, same...)
		k.checkWritten(t, unlike...)
		k.checkReadBelow(t, unlike...)
	}
}

// size: how many bytes long texts have.
const size = 1 << 20

// long: texts of so many bytes, each of one part.
func long(parts ...string) []string {
	var l []string
	for _, s := range parts {
		l = append(l, repeat(s, size/len(s))+repeat("x", size%len(s)))
	}
	return l
}

func TestLongTexts(t *testing.T) {
	l := long("&", "<", ">", `"`, "'", "x", " ", "\n", "\x00", "\xff", `&<>"`, "&amp;lt;", "\u20ac>")
	for _, s := range append(l, repeat("x", size-1)+"&", `"`+repeat("x", size-1)) {
		if len(s) != size {
			t.Errorf("%.10q: %d bytes", s, len(s))
		}
		checkEscape(t, s, plainEscape(s))
		for _, k := range kinds() {
			k.checkWritten(t, api.Item{Guid: s, Title: s, Link: s, Body: s, Date: api.MaxDate, Dated: true})
		}
	}
}

func TestLongTextsAreRead(t *testing.T) {
	for _, s := range long(`&<>"'`, "&amp;lt;", "<p>&#9;", "\u20ac ") {
		x := api.Item{Guid: s, Title: s, Link: s, Body: s, Date: api.MaxDate, Dated: true}
		for _, k := range kinds() {
			k.checkVerbatim(t, x)
			k.checkReadBelow(t, withText(x, 0, "g"))
		}
	}
}

func TestEachLongText(t *testing.T) {
	for _, s := range long(`"a&<b>`) {
		for _, k := range kinds() {
			for i := range k.ends {
				x := withText(api.Item{Guid: "g", Dated: true}, i, s)
				k.checkWritten(t, api.Item{}, x, api.Item{})
				k.checkReadBelow(t, x) // a Guid is too long
			}
		}
	}
}

// TestTimeGrowsAsTheText: texts so long that a text that was put together anew for each sign, or for each entry, would not come to its end within a test.
func TestTimeGrowsAsTheText(t *testing.T) {
	const n = 1 << 24
	for part, want := range map[string]string{"&": "&amp;", "x": "x", "a<": "a&lt;"} {
		if got := print.Escape(repeat(part, n)); got != repeat(want, n) {
			t.Errorf("Escape of %q, %d times: %d bytes", part, n, len(got))
		}
	}
	const many = 1 << 20
	for _, k := range kinds() {
		got := k.write(make([]api.Item, many))
		if lines := strings.Count(got, "\n"); lines != many+3 {
			t.Errorf("%s: %d lines", k.name, lines)
		}
	}
}
