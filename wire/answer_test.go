package wire_test

import (
	"math"
	"slices"
	"testing"

	"newsreel/api"
	"newsreel/sample"
	"newsreel/wire"
)

// answered: an answer of that Code, all fields full.
func answered(code api.Code) api.Answer {
	return api.Answer{
		Code: code, New: 1, Epoch: 64,
		Clusters: []api.Cluster{
			{Rep: key("a", "1"), Members: []api.Key{key("a", "1"), key("b", "2")}, Feeds: 2, Newest: -1, Score: 2529, Read: true},
			{Rep: key("c", "3"), Members: []api.Key{key("c", "3")}, Feeds: 1, Newest: 5, Score: 1510},
		},
		Entries: []api.Entry{{Key: key("a", "1"), Title: "t", Link: "l", Body: "b", Stamp: 5, Sig: 0x0102030405060708}},
		Cursor:  "\x00\xff",
		Counts:  [5]int{1, 2, 3, -4, 128},
	}
}

// manyClusters: n clusters, that were read and weren't, with none, one and many Members.
func manyClusters(n int) []api.Cluster {
	var l []api.Cluster
	for i, k := range manyKeys(n) {
		l = append(l, api.Cluster{Rep: k, Members: manyKeys([]int{0, 1, 2, 63, 64, 65}[i%6]), Feeds: i, Newest: -i, Score: i << 40, Read: i%2 == 0})
	}
	return l
}

// answers: OK with all, with none, with edges of each field.
func answers() []api.Answer {
	l := []api.Answer{{}, answered(0)}
	for _, read := range []bool{true, false} {
		for _, n := range []int{0, 1, 2, 63, 64, 300} {
			l = append(l, api.Answer{Clusters: []api.Cluster{{Members: manyKeys(n), Read: read}}}, api.Answer{Clusters: []api.Cluster{{Rep: key("a", "b"), Members: manyKeys(n), Feeds: 1, Newest: 2, Score: 3, Read: read}, {Read: !read}}})
		}
	}
	for _, n := range []int{1, -1, 63, 64, -64, -65, 128, 1 << 53, math.MaxInt - 1, math.MaxInt, math.MinInt, math.MinInt + 1} {
		l = append(l, api.Answer{New: n}, api.Answer{Epoch: n}, api.Answer{Counts: [5]int{n, n, n, n, n}},
			api.Answer{Clusters: []api.Cluster{{Feeds: n}, {Newest: n}, {Score: n}}}, api.Answer{Entries: []api.Entry{{Stamp: n}}})
		for i := range 5 {
			a := api.Answer{}
			a.Counts[i] = n
			l = append(l, a)
		}
	}
	for _, s := range []string{"a", "\x00", "\xff", text(24), text(25), text(63), text(64), text(256), text(257), text(1 << 18), text(1<<18 + 1)} {
		l = append(l, api.Answer{Cursor: s}, api.Answer{Clusters: []api.Cluster{{Rep: key(s, "")}, {Rep: key("", s)}, {Members: []api.Key{key(s, s)}}}},
			api.Answer{Entries: []api.Entry{{Key: key(s, s)}, {Title: s}, {Link: s}, {Body: s}}})
	}
	for _, n := range []int{1, 2, 63, 64, 65, 200} {
		l = append(l, api.Answer{Clusters: manyClusters(n)}, api.Answer{Entries: manyEntries(n)}, api.Answer{Clusters: manyClusters(n), Entries: manyEntries(n), New: n, Cursor: text(n)})
	}
	for _, n := range sigs() {
		l = append(l, api.Answer{Entries: []api.Entry{{Sig: n}}})
	}
	return l
}

// checkAnswer: want is the bytes of a, which the other way reads.
func checkAnswer(t *testing.T, a api.Answer, want string) {
	t.Helper()
	if s := plainAnswer(a); s != want {
		t.Errorf("the other way of %v: %x, not %x", fewOfAnswer(a), few(s), few(want))
	}
	got := wire.Answer(a)
	if got != want {
		t.Errorf("Answer(%v): %x, not %x", fewOfAnswer(a), few(got), few(want))
	}
	if a.Code != 0 {
		a = api.Answer{Code: a.Code}
	}
	if back, ok := plainReadAnswer(got); !ok || !sameAnswer(back, a) {
		t.Errorf("of %v the other way reads %v, %v", fewOfAnswer(a), fewOfAnswer(back), ok)
	}
}

// fewOfAnswer: the first ones of a, and the begins of their texts.
func fewOfAnswer(a api.Answer) api.Answer {
	a.Clusters = slices.Clone(a.Clusters[:min(len(a.Clusters), 5)])
	for i, c := range a.Clusters {
		a.Clusters[i].Rep, a.Clusters[i].Members = fewKeys([]api.Key{c.Rep})[0], fewKeys(c.Members)
	}
	a.Entries, a.Cursor = fewEntries(a.Entries), shown(a.Cursor)
	return a
}

func TestAnswer(t *testing.T) {
	for _, row := range []struct {
		answer api.Answer
		bytes  string
	}{
		{api.Answer{}, "00 00 00 00 00 00 00 00 00 00 00"},
		{api.Answer{Code: 1}, "02"},
		{api.Answer{Code: 15}, "1e"},
		{api.Answer{Code: -1}, "01"},
		{api.Answer{New: 1, Epoch: 2}, "00 02 04 00 00 00 00 00 00 00 00"},
		{api.Answer{Cursor: "ab"}, "00 00 00 00 00 04 6162 00 00 00 00 00"},
		{api.Answer{Counts: [5]int{1, 2, 3, 4, 64}}, "00 00 00 00 00 00 02 04 06 08 8001"},
		{api.Answer{Clusters: []api.Cluster{{}}}, "00 00 00 02 00 00 00 00 00 00 00 00 00 00 00 00 00 00"},
		{api.Answer{Clusters: []api.Cluster{{Read: true}}}, "00 00 00 02 00 00 00 00 00 00 02 00 00 00 00 00 00 00"},
		{api.Answer{Clusters: []api.Cluster{{Rep: key("a", "b"), Members: []api.Key{key("c", "d"), key("e", "")}, Feeds: 1, Newest: -1, Score: 64, Read: true}}}, "00 00 00 02 0261 0262 04 0263 0264 0265 00 02 01 8001 02 00 00 00 00 00 00 00"},
		{api.Answer{Entries: []api.Entry{{Key: key("f", "g"), Title: "t", Link: "l", Body: "b", Stamp: -3, Sig: 1}}}, "00 00 00 00 02 0266 0267 0274 026c 0262 05 0100000000000000 00 00 00 00 00 00"},
		{answered(0), "00 02 8001 04 0261 0231 04 0261 0231 0262 0232 04 01 c227 02 0263 0233 02 0263 0233 02 0a cc17 00 02 0261 0231 0274 026c 0262 0a 0807060504030201 0400ff 02 04 06 07 8002"},
	} {
		checkAnswer(t, row.answer, bytesOf(row.bytes))
	}
}

func TestAnswersThereAndBack(t *testing.T) {
	for _, a := range answers() {
		checkAnswer(t, a, plainAnswer(a))
	}
}

// Of any Code but OK that number stands alone, whatever else there is.
func TestAnswersThatAreErrors(t *testing.T) {
	codes := []api.Code{16, 17, 63, 64, 127, 128, 255, 256, 1 << 32, 1 << 62, -1, -2, -15, -64, -65, -256, -1 << 32, math.MaxInt, math.MaxInt - 1, math.MinInt, math.MinInt + 1}
	for code := range api.ErrBroken {
		codes = append(codes, code+1)
	}
	for _, code := range codes {
		for _, a := range []api.Answer{{Code: code}, answered(code), {Code: code, Clusters: manyClusters(9)}, {Code: code, Cursor: "x"}, {Code: code, Counts: [5]int{4: 1}}} {
			checkAnswer(t, a, plainInt(int(code)))
		}
	}
}

// Only what the answer tells is told: whether each field is seen in the bytes.
func TestAnswersAreToldApart(t *testing.T) {
	l := answers()
	seen := map[string]int{}
	for i, a := range l {
		s := wire.Answer(a)
		if j, there := seen[s]; there && !sameAnswer(l[j], a) {
			t.Errorf("%v and %v have the same bytes", fewOfAnswer(l[j]), fewOfAnswer(a))
		}
		seen[s] = i
	}
}

func mixedAnswer(m uint64) api.Answer {
	a := api.Answer{New: mixedNumber(&m), Epoch: mixedNumber(&m), Cursor: mixedText(&m, 90)}
	if below(&m, 10) == 0 {
		a.Code = api.Code(mixedNumber(&m))
	}
	for range below(&m, 4) {
		c := api.Cluster{Rep: mixedKey(&m), Feeds: mixedNumber(&m), Newest: mixedNumber(&m), Score: mixedNumber(&m), Read: below(&m, 2) == 0}
		for range below(&m, 4) {
			c.Members = append(c.Members, mixedKey(&m))
		}
		a.Clusters = append(a.Clusters, c)
	}
	for range below(&m, 4) {
		a.Entries = append(a.Entries, mixedEntry(&m))
	}
	for i := range a.Counts {
		a.Counts[i] = mixedNumber(&m)
	}
	return a
}

func TestMixedAnswers(t *testing.T) {
	for _, m := range sample.Mixed(10000) {
		a := mixedAnswer(m)
		checkAnswer(t, a, plainAnswer(a))
	}
}
