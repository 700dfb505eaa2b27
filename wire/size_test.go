package wire_test

import (
	"math"
	"strings"
	"testing"

	"newsreel/api"
	"newsreel/sample"
	"newsreel/wire"
)

// Texts of as many bytes as a record may have, a few more and fewer, and many more.
func TestLongTexts(t *testing.T) {
	for _, n := range []int{api.MaxText, api.MaxCommand - 1, api.MaxCommand, api.MaxRecord - 1, api.MaxRecord, api.MaxRecord + 1, 1 << 20, 1<<20 - 1, 1 << 24} {
		for _, s := range []string{text(n), repeat("\x00", n), repeat("\xff", n)} {
			b := wire.Text(s)
			if b != plainInt(n)+s {
				t.Errorf("Text of %d bytes: %x", n, few(b))
			}
			checkReadText(t, b, n, s, "")
			checkReadText(t, b+s, n, s, s)
			checkReadText(t, b+"x", math.MaxInt, s, "x")
			checkNoText(t, b, n-1)
			checkNoText(t, b[:len(b)-1], n)
			checkReadInt(t, b, n, s)
		}
		for _, c := range []string{"\x80", "\xff"} {
			checkNoInt(t, repeat(c, n))
			checkNoText(t, repeat(c, n), n)
		}
	}
}

// longStates: such as have far more bytes than a record, by each of their lists, and by their texts.
func longStates() []api.State {
	const n = 1 << 15
	long := text(1 << 18)
	var entries []api.Entry
	for i := range 20 {
		entries = append(entries, api.Entry{Key: key("feed", repeat("g", i)), Title: long, Link: long, Body: long, Stamp: i, Sig: uint64(i) << 60})
	}
	return []api.State{
		{Feeds: manyFeeds(n)}, {Feeds: make([]string, 1<<18)},
		{Entries: manyEntries(n)}, {Entries: make([]api.Entry, n)}, {Entries: entries},
		{Read: manyKeys(n)}, {Read: make([]api.Key, 1<<18)},
		{Feeds: manyFeeds(n), Entries: append(manyEntries(n), entries...), Read: manyKeys(n), Now: math.MaxInt, Floor: math.MinInt, Epoch: 1 << 62},
	}
}

func TestLongStates(t *testing.T) {
	for _, x := range longStates() {
		s := wire.State(x)
		if len(s) < api.MaxRecord {
			t.Errorf("%v has %d bytes", fewOfState(x), len(s))
		}
		checkState(t, x, plainState(x))
		for _, n := range []int{0, 1, 3, 4, 5, 10, 1000, len(s) / 2, len(s) - 1000, len(s) - 1} {
			checkNoState(t, s[:n])
		}
		checkNoState(t, s+"\x00")
		checkNoState(t, "\x80"+s)
	}
}

// A state of just as many bytes as a record may have, and of one more: its bytes aren't bounded.
func TestStatesOfARecordsBytes(t *testing.T) {
	for _, n := range []int{api.MaxRecord - 1, api.MaxRecord, api.MaxRecord + 1, 2 * api.MaxRecord} {
		x := api.State{Entries: []api.Entry{{Title: text(n / 2), Body: text(n / 4)}, {Body: text(1 << 14)}}}
		x.Entries[1].Body = text(1<<14 + n - len(plainState(x)))
		s := wire.State(x)
		if len(s) != n {
			t.Errorf("%d bytes, not %d", len(s), n)
		}
		checkState(t, x, plainState(x))
		checkNoState(t, s[:n-1])
	}
}

func TestLongAnswers(t *testing.T) {
	for _, a := range []api.Answer{
		{Clusters: manyClusters(1 << 12)}, {Clusters: make([]api.Cluster, 1<<14)}, {Clusters: []api.Cluster{{Members: manyKeys(1 << 15), Read: true}, {Members: make([]api.Key, 1<<17)}}},
		{Entries: manyEntries(1 << 15)}, {Entries: make([]api.Entry, 1<<15)}, {Cursor: text(1 << 22)},
		{Clusters: manyClusters(1 << 10), Entries: manyEntries(1 << 13), Cursor: text(1 << 18), New: -1, Epoch: math.MaxInt},
	} {
		checkAnswer(t, a, plainAnswer(a))
		a.Code = api.ErrFull
		checkAnswer(t, a, "\x16")
	}
}

// Bytes that promise far more than there is: nothing is made of what isn't there.
func TestCountsThatPromiseMuch(t *testing.T) {
	for _, n := range []int{1 << 20, 1 << 31, 1 << 40, 1 << 62, math.MaxInt} {
		for _, ahead := range []string{"\x00\x00\x00", "\x00\x00\x00\x00", "\x00\x00\x00\x00\x00"} {
			s := ahead + plainInt(n)
			checkNoState(t, s)
			checkNoState(t, s+repeat("\x00", 1<<19))
			checkNoState(t, s+repeat("\xff", 1<<19))
		}
	}
}

// TestTimeGrowsAsTheBytes: a state so long that one whose rest was copied anew for each piece would not come to its end within a test.
func TestTimeGrowsAsTheBytes(t *testing.T) {
	x := api.State{Feeds: make([]string, 1<<22), Read: make([]api.Key, 1<<21)}
	s := wire.State(x)
	if want := "\x00\x00\x00" + plainInt(1<<22) + repeat("\x00", 1<<22) + "\x00" + plainInt(1<<21) + repeat("\x00", 1<<22); s != want {
		t.Errorf("State of empty feeds and keys: %d bytes, %x", len(s), few(s))
	}
	checkReadState(t, s, x)
	checkNoState(t, s[:len(s)-1])
	checkNoState(t, s+"\x00")
	var b strings.Builder
	for _, m := range sample.Mixed(1 << 17) {
		b.WriteString(wire.Text(sample.Bytes(m, 8)))
	}
	checkReadText(t, wire.Text(b.String()), b.Len(), b.String(), "")
}

func FuzzWire(f *testing.F) {
	for i, m := range sample.Mixed(50) {
		f.Add(wire.Command(mixedCommand(m)), i, m)
		f.Add(wire.State(mixedState(m)), int(m), m>>3)
		f.Add(wire.Int(int(m)), mixedNumber(&m), m)
	}
	f.Fuzz(func(t *testing.T, s string, n int, m uint64) {
		checkInt(t, n, plainInt(n))
		checkIntAsOther(t, s)
		checkText(t, s)
		checkTextAsOther(t, s, n)
		checkTextAsOther(t, s, len(s))
		c := mixedCommand(m)
		c.Feed, c.N, c.Filter = s, n, ^n
		if len(s) < 1<<16 {
			checkCommand(t, c, plainCommand(c))
		}
		checkCommandAsOther(t, s)
		checkCommandAsOther(t, changed(m>>5, wire.Command(c)))
		checkStateAsOther(t, s)
		checkStateAsOther(t, changed(m>>5, wire.State(mixedState(m))))
		a := mixedAnswer(m)
		a.Cursor, a.Counts[n&3] = s, n
		checkAnswer(t, a, plainAnswer(a))
	})
}
