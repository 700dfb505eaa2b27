package wire_test

import (
	"math"
	"slices"
	"strconv"
	"testing"

	"newsreel/api"
	"newsreel/sample"
	"newsreel/wire"
)

// key: one of that feed and Guid.
func key(feed, guid string) api.Key { return api.Key{Feed: feed, Guid: guid} }

// manyFeeds: n names, rising.
func manyFeeds(n int) []string {
	var l []string
	for i := range n {
		l = append(l, "feed-"+strconv.Itoa(100000000+i))
	}
	return l
}

// manyKeys: n keys, rising.
func manyKeys(n int) []api.Key {
	var l []api.Key
	for i := range n {
		l = append(l, key("feed", strconv.Itoa(100000000+i)))
	}
	return l
}

// manyEntries: n entries, by keys, rising.
func manyEntries(n int) []api.Entry {
	var l []api.Entry
	for i, k := range manyKeys(n) {
		l = append(l, api.Entry{Key: k, Title: "Title " + k.Guid, Link: "http://a/" + k.Guid, Body: text(i % 100), Stamp: i - 3, Sig: uint64(i) * 0x0102030405060708})
	}
	return l
}

// some: a state that has all.
func some() api.State {
	return api.State{
		Feeds: []string{"a", "bc"},
		Entries: []api.Entry{
			{Key: key("a", "1"), Title: "Storm", Link: "http://a", Body: "hits", Stamp: 5, Sig: 0x8877665544332211},
			{Key: key("bc", "23")},
		},
		Read: []api.Key{key("a", "1")},
		Now:  1, Floor: -1, Epoch: 64,
	}
}

// sigs: of 0, 1, all bits, each bit alone.
func sigs() []uint64 { return append(sample.Edges(), 1, 255, 256, 0x0102030405060708, math.MaxUint64) }

// states: none of anything, one, many; edges of each field.
func states() []api.State {
	l := []api.State{{}, some(), {Feeds: []string{""}}, {Entries: []api.Entry{{}}}, {Read: []api.Key{{}}}, {Feeds: []string{"b", "a", "a", ""}, Read: []api.Key{key("b", ""), key("a", ""), key("a", "")}}}
	for _, n := range []int{1, 2, 3, 62, 63, 64, 65, 127, 128, 200} {
		l = append(l, api.State{Feeds: manyFeeds(n)}, api.State{Entries: manyEntries(n)}, api.State{Read: manyKeys(n)}, api.State{Feeds: manyFeeds(n), Entries: manyEntries(n), Read: manyKeys(n), Now: n, Floor: -n, Epoch: 2 * n})
	}
	for _, n := range []int{1, -1, 63, 64, -64, -65, 1 << 53, 1 << 62, math.MaxInt - 1, math.MaxInt, math.MinInt, math.MinInt + 1} {
		l = append(l, api.State{Now: n}, api.State{Floor: n}, api.State{Epoch: n}, api.State{Now: n, Floor: n, Epoch: n}, api.State{Entries: []api.Entry{{Stamp: n}, {Stamp: -n}}})
	}
	for _, n := range sigs() {
		l = append(l, api.State{Entries: []api.Entry{{Sig: n}, {Sig: ^n, Title: "b"}}})
	}
	for _, s := range []string{"a", "\x00", "\xff\xfe", "\u20ac", text(23), text(24), repeat("\x00", 24)} {
		l = append(l, api.State{Feeds: []string{s}}, api.State{Feeds: []string{"", s, s}}, api.State{Read: []api.Key{{Feed: s}, {Feed: s, Guid: s}}}, api.State{Entries: []api.Entry{{Key: api.Key{Feed: s}}, {Key: key(s, s), Title: s, Link: s, Body: s}}})
	}
	for _, s := range []string{text(25), text(63), text(64), text(255), text(256), repeat("\xff", 256)} {
		l = append(l, api.State{Read: []api.Key{{Guid: s}}}, api.State{Entries: []api.Entry{{Key: api.Key{Guid: s}}, {Title: s, Link: s, Body: s}}})
	}
	for _, s := range []string{text(257), text(8191), text(8192), text(1<<18 - 1), text(1 << 18), repeat("\x00", 1<<18)} {
		l = append(l, api.State{Entries: []api.Entry{{Title: s}}}, api.State{Entries: []api.Entry{{Link: s}}}, api.State{Entries: []api.Entry{{Body: s}, {Title: "b"}}})
	}
	return l
}

// tooLong: states with one text that may not be so long.
func tooLong() []api.State {
	var l []api.State
	for _, n := range []int{25, 26, 63, 64, 256, 257, 1 << 18, 1<<18 + 1} {
		s := text(n)
		l = append(l, api.State{Feeds: []string{s}}, api.State{Feeds: []string{"a", s, "b"}}, api.State{Read: []api.Key{{Feed: s}}}, api.State{Read: []api.Key{{}, {Feed: s, Guid: "b"}, {}}}, api.State{Entries: []api.Entry{{Key: api.Key{Feed: s}}}})
	}
	for _, n := range []int{257, 258, 512, 1 << 18, 1<<18 + 1} {
		s := text(n)
		l = append(l, api.State{Read: []api.Key{{Guid: s}}}, api.State{Read: []api.Key{{}, key("a", s), {}}}, api.State{Entries: []api.Entry{{Key: api.Key{Guid: s}}, {Title: "b"}}})
	}
	for _, n := range []int{1<<18 + 1, 1<<18 + 2, 1 << 19, 1 << 21} {
		s := text(n)
		l = append(l, api.State{Entries: []api.Entry{{Title: s}}}, api.State{Entries: []api.Entry{{Link: s}}}, api.State{Entries: []api.Entry{{Body: s}}}, api.State{Entries: []api.Entry{{}, {Title: "a", Link: "b", Body: s}, {}}, Read: []api.Key{{}}})
	}
	return l
}

// checkState: want is the bytes of x, and they are read so.
func checkState(t *testing.T, x api.State, want string) {
	t.Helper()
	if s := plainState(x); s != want {
		t.Errorf("the other way of %v: %x, not %x", fewOfState(x), few(s), few(want))
	}
	if got := wire.State(x); got != want {
		t.Errorf("State(%v): %x, not %x", fewOfState(x), few(got), few(want))
	}
	checkReadState(t, want, x)
}

// checkReadState: of s that state is read.
func checkReadState(t *testing.T, s string, want api.State) {
	t.Helper()
	if got, ok := wire.ReadState(s); !sameState(got, want) || !ok {
		t.Errorf("ReadState(%x): %v, %v, not %v", few(s), fewOfState(got), ok, fewOfState(want))
	}
}

// checkNoState: s isn't read.
func checkNoState(t *testing.T, s string) {
	t.Helper()
	if got, ok := wire.ReadState(s); ok {
		t.Errorf("ReadState of %d bytes, %x: %v, not none", len(s), few(s), fewOfState(got))
	}
}

// checkStateAsOther: of s that is read that the other way reads; what is read, written again, is the same bytes.
func checkStateAsOther(t *testing.T, s string) {
	t.Helper()
	want, ok := plainReadState(s)
	if !ok {
		checkNoState(t, s)
		return
	}
	checkReadState(t, s, want)
	if got := wire.State(want); got != s {
		t.Errorf("State(%v): %x, not %x", fewOfState(want), few(got), few(s))
	}
}

// fewOfState: the first ones of x, and the begins of their texts.
func fewOfState(x api.State) api.State {
	x.Feeds, x.Entries, x.Read = fewTexts(x.Feeds), fewEntries(x.Entries), fewKeys(x.Read)
	return x
}

func fewTexts(l []string) []string {
	l = slices.Clone(l[:min(len(l), 5)])
	for i, s := range l {
		l[i] = shown(s)
	}
	return l
}

func fewKeys(l []api.Key) []api.Key {
	l = slices.Clone(l[:min(len(l), 5)])
	for i, k := range l {
		l[i] = key(shown(k.Feed), shown(k.Guid))
	}
	return l
}

func fewEntries(l []api.Entry) []api.Entry {
	l = slices.Clone(l[:min(len(l), 5)])
	for i, x := range l {
		l[i] = api.Entry{Key: key(shown(x.Key.Feed), shown(x.Key.Guid)), Title: shown(x.Title), Link: shown(x.Link), Body: shown(x.Body), Stamp: x.Stamp, Sig: x.Sig}
	}
	return l
}

func TestState(t *testing.T) {
	for _, row := range []struct {
		state api.State
		bytes string
	}{
		{api.State{}, "00 00 00 00 00 00"},
		{api.State{Now: 1, Floor: -1, Epoch: 128}, "02 01 8002 00 00 00"},
		{api.State{Now: math.MaxInt, Floor: math.MinInt}, "feffffffffffffffff01 ffffffffffffffffff01 00 00 00 00"},
		{api.State{Feeds: []string{"a", "bc"}}, "00 00 00 04 0261 046263 00 00"},
		{api.State{Feeds: []string{""}}, "00 00 00 02 00 00 00"},
		{api.State{Entries: []api.Entry{{}}}, "00 00 00 00 02 00 00 00 00 00 00 0000000000000000 00"},
		{api.State{Read: []api.Key{{}}}, "00 00 00 00 00 02 00 00"},
		{api.State{Read: []api.Key{key("a", "bc"), key("d", "")}}, "00 00 00 00 00 04 0261 046263 0264 00"},
		{api.State{Entries: []api.Entry{{Key: key("f", "g"), Title: "t", Link: "l", Body: "b", Stamp: -3, Sig: 1}}}, "00 00 00 00 02 0266 0267 0274 026c 0262 05 0100000000000000 00"},
		{api.State{Entries: []api.Entry{{Sig: math.MaxUint64}, {Sig: 0x0102030405060708}}}, "00 00 00 00 04 00 00 00 00 00 00 ffffffffffffffff 00 00 00 00 00 00 0807060504030201 00"},
		{some(), "02 01 8001 04 0261 046263 04 0261 0231 0a 53746f726d 10 687474703a2f2f61 08 68697473 0a 1122334455667788 046263 043233 00 00 00 00 0000000000000000 02 0261 0231"},
	} {
		checkState(t, row.state, bytesOf(row.bytes))
	}
}

func TestStatesThereAndBack(t *testing.T) {
	for _, x := range states() {
		checkState(t, x, plainState(x))
	}
}

// Texts of any length are written, but read up to a bound.
func TestTextsThatAreTooLong(t *testing.T) {
	for _, x := range tooLong() {
		s := wire.State(x)
		if s != plainState(x) {
			t.Errorf("State(%v): %x", fewOfState(x), few(s))
		}
		checkNoState(t, s)
	}
}

// What stops within a state, and what has bytes behind it, is none.
func TestReadStateOfMoreAndLess(t *testing.T) {
	checkNoState(t, "")
	for _, x := range states() {
		s := wire.State(x)
		for i := range min(len(s), 500) {
			checkNoState(t, s[:i])
			checkNoState(t, s[:len(s)-1-i])
		}
		for _, behind := range behinds()[1:] {
			checkNoState(t, s+behind)
		}
		checkNoState(t, s+s)
	}
}

// Each number with bytes that are none's or more than it needs, each length and count below 0 or too great.
func TestReadStateOfBadParts(t *testing.T) {
	l := []api.State{some(), {}, {Feeds: []string{""}, Entries: []api.Entry{{}}, Read: []api.Key{{}}},
		{Feeds: manyFeeds(3), Entries: manyEntries(3), Read: manyKeys(3), Now: 64, Floor: -65, Epoch: 1 << 60}}
	for _, x := range l {
		parts := stateParts(x)
		for i, p := range parts {
			if p.kind == "bytes" {
				continue
			}
			bad := slices.Clone(parts)
			for _, s := range badNumbers(p.n) {
				bad[i].bytes = s
				checkNoState(t, joined(bad))
			}
			for _, s := range openNumbers() {
				bad[i].bytes = s
				checkStateAsOther(t, joined(bad))
			}
			for _, n := range badSizes(p.n) {
				bad[i].bytes = plainInt(n)
				checkStateAsOther(t, joined(bad))
				if p.kind != "number" && (n < 0 || n > 1000) {
					checkNoState(t, joined(bad))
				}
			}
		}
	}
}

// Counts that are too great by one and more, with nothing and with much behind.
func TestReadStateOfBadCounts(t *testing.T) {
	for _, row := range []struct{ ahead, one, behind string }{
		{"\x00\x00\x00", "\x02a", "\x00\x00"},
		{"\x00\x00\x00\x00", repeat("\x02a", 5) + repeat("\x00", 9), "\x00"},
		{"\x00\x00\x00\x00\x00", "\x02a\x02b", ""},
	} {
		for have := range 5 {
			for _, n := range []int{-1, -2, 0, 1, 2, 3, 4, 5, 6, 100, 1 << 20, 1 << 31, 1 << 32, 1<<32 + have, 1 << 60, math.MaxInt - 1, math.MaxInt, math.MinInt, math.MinInt + have} {
				s := row.ahead + plainInt(n) + repeat(row.one, have)
				checkStateAsOther(t, s+row.behind)
				if n != have {
					checkNoState(t, s+row.behind)
				}
				if n < 0 || n > have {
					checkNoState(t, s)
				}
				if n < 0 || n > 1000 {
					checkNoState(t, s+repeat(row.one, 100)+row.behind)
					checkNoState(t, s+repeat("\x00", 1000))
				}
			}
		}
	}
}

func mixedEntry(m *uint64) api.Entry {
	return api.Entry{Key: mixedKey(m), Title: mixedText(m, 30), Link: mixedText(m, 30), Body: mixedText(m, 100), Stamp: mixedNumber(m), Sig: uint64(mixedNumber(m))}
}

func mixedKey(m *uint64) api.Key { return key(mixedText(m, 25), mixedText(m, 40)) }

func mixedState(m uint64) api.State {
	x := api.State{Now: mixedNumber(&m), Floor: mixedNumber(&m), Epoch: mixedNumber(&m)}
	for range below(&m, 4) {
		x.Feeds = append(x.Feeds, mixedText(&m, 25))
	}
	for range below(&m, 4) {
		x.Entries = append(x.Entries, mixedEntry(&m))
	}
	for range below(&m, 4) {
		x.Read = append(x.Read, mixedKey(&m))
	}
	return x
}

func TestMixedStates(t *testing.T) {
	read, not := 0, 0
	for _, m := range sample.Mixed(10000) {
		x := mixedState(m)
		checkState(t, x, plainState(x))
		s := changed(m>>3, wire.State(x))
		checkStateAsOther(t, s)
		if _, ok := plainReadState(s); ok {
			read++
		} else {
			not++
		}
	}
	if read < 1000 || not < 1000 {
		t.Errorf("%d were read, %d weren't", read, not)
	}
}

// All rows of up to four of these, behind the beginnings of states.
func TestShortStates(t *testing.T) {
	parts := []string{"\x00", "\x02", "\x04", "\x01", "\x02a", "\x80\x00", repeat("\x00", 6), repeat("\x00", 14)}
	for l := range sample.Lists(parts, 4) {
		s := ""
		for _, part := range l {
			s += part
		}
		for _, ahead := range []string{"", "\x00\x00", "\x00\x00\x00", "\x00\x00\x00\x00", "\x01\x02\x03\x02\x02a", "\x00\x00\x00\x00\x00"} {
			checkStateAsOther(t, ahead+s)
		}
	}
}

// States one behind the other have bytes of their own: no state's are another one's beginning.
func TestStatesAreToldApart(t *testing.T) {
	l := states()
	seen := map[string]int{}
	for i, x := range l {
		s := wire.State(x)
		if j, there := seen[s]; there && !sameState(l[j], x) {
			t.Errorf("%v and %v have the same bytes", fewOfState(l[j]), fewOfState(x))
		}
		seen[s] = i
	}
}
