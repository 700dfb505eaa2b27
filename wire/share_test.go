package wire_test

import (
	"slices"
	"testing"
	"unsafe"

	"newsreel/api"
	"newsreel/sample"
	"newsreel/wire"
)

// given: texts in memory that may be changed behind a call, with spare room.
type given struct {
	memory [][]byte
	were   []string
}

func (g *given) text(s string) string {
	b := []byte(s + "spare")
	g.memory = append(g.memory, b)
	g.were = append(g.were, string(b))
	return unsafe.String(&b[0], len(s))
}

func (g *given) texts(l []string) []string {
	var c []string
	for _, s := range l {
		c = append(c, g.text(s))
	}
	return sample.Roomy(c, "spare")
}

func (g *given) key(k api.Key) api.Key { return key(g.text(k.Feed), g.text(k.Guid)) }

func (g *given) keys(l []api.Key) []api.Key {
	var c []api.Key
	for _, k := range l {
		c = append(c, g.key(k))
	}
	return sample.Roomy(c, key("spare", "key"))
}

func (g *given) entries(l []api.Entry) []api.Entry {
	var c []api.Entry
	for _, x := range l {
		c = append(c, api.Entry{Key: g.key(x.Key), Title: g.text(x.Title), Link: g.text(x.Link), Body: g.text(x.Body), Stamp: x.Stamp, Sig: x.Sig})
	}
	return sample.Roomy(c, api.Entry{Title: "spare"})
}

func (g *given) command(c api.Command) api.Command {
	c.Feed, c.Guid, c.Doc, c.Cursor = g.text(c.Feed), g.text(c.Guid), g.text(c.Doc), g.text(c.Cursor)
	return c
}

func (g *given) state(x api.State) api.State {
	x.Feeds, x.Entries, x.Read = g.texts(x.Feeds), g.entries(x.Entries), g.keys(x.Read)
	return x
}

func (g *given) answer(a api.Answer) api.Answer {
	var l []api.Cluster
	for _, c := range a.Clusters {
		c.Rep, c.Members = g.key(c.Rep), g.keys(c.Members)
		l = append(l, c)
	}
	a.Clusters, a.Entries, a.Cursor = sample.Roomy(l, api.Cluster{Score: 7}), g.entries(a.Entries), g.text(a.Cursor)
	return a
}

// turn: whether all is as it was; it isn't any more.
func (g *given) turn() bool {
	same := true
	for i, b := range g.memory {
		same = same && string(b) == g.were[i]
		for k := range b {
			b[k] ^= 0x55
		}
	}
	return same
}

// spoil writes over the lists of x, their spare room too.
func spoil(x api.State) {
	spoilAll(x.Feeds, "spoilt")
	spoilAll(x.Entries, api.Entry{Title: "spoilt"})
	spoilAll(x.Read, key("spoilt", "spoilt"))
}

func spoilAll[T any](l []T, x T) {
	l = l[:cap(l)]
	for i := range l {
		l[i] = x
	}
}

// whole: x, its lists' spare room among them, in new memory.
func whole(x api.State) api.State {
	x.Feeds, x.Entries, x.Read = slices.Clone(x.Feeds[:cap(x.Feeds)]), slices.Clone(x.Entries[:cap(x.Entries)]), slices.Clone(x.Read[:cap(x.Read)])
	return x
}

// wholeAnswer: as whole.
func wholeAnswer(a api.Answer) api.Answer {
	a.Clusters, a.Entries = slices.Clone(a.Clusters[:cap(a.Clusters)]), slices.Clone(a.Entries[:cap(a.Entries)])
	for i, c := range a.Clusters {
		a.Clusters[i].Members = slices.Clone(c.Members[:cap(c.Members)])
	}
	return a
}

// checkTurned: the text got, which was made ahead of the turning of what was given, is want still; and nothing had been changed.
func checkTurned(t *testing.T, what string, g *given, got, want string) {
	t.Helper()
	if !g.turn() {
		t.Errorf("%s changed what was given", what)
	}
	if got != want {
		t.Errorf("%s turns with what was given: %x, not %x", what, few(got), few(want))
	}
}

func TestWrittenBytesAreNewMemory(t *testing.T) {
	for _, s := range []string{"", "a", "ab", text(63), text(64), text(9000)} {
		var g given
		checkTurned(t, "Text", &g, wire.Text(g.text(s)), plainInt(len(s))+s)
	}
	for _, c := range commands() {
		var g given
		checkTurned(t, "Command", &g, wire.Command(g.command(c)), plainCommand(c))
	}
	for _, x := range states() {
		var g given
		in := g.state(x)
		before := whole(in)
		got := wire.State(in)
		if !sameState(whole(in), before) {
			t.Errorf("State(%v) changed its lists", fewOfState(x))
		}
		spoil(in)
		checkTurned(t, "State", &g, got, plainState(x))
	}
	for _, a := range append(answers(), answered(1)) {
		var g given
		in := g.answer(a)
		before := wholeAnswer(in)
		got := wire.Answer(in)
		if !sameAnswer(wholeAnswer(in), before) {
			t.Errorf("Answer(%v) changed its lists", fewOfAnswer(a))
		}
		spoilAll(in.Clusters, api.Cluster{Score: -1})
		spoilAll(in.Entries, api.Entry{Title: "spoilt"})
		checkTurned(t, "Answer", &g, got, plainAnswer(a))
	}
}

func TestWhatIsReadIsNewMemory(t *testing.T) {
	for _, n := range numbers() {
		for _, behind := range behinds() {
			var g given
			got, rest, ok := wire.ReadInt(g.text(plainInt(n) + behind))
			checkTurned(t, "ReadInt", &g, rest, behind)
			if got != n || !ok {
				t.Errorf("ReadInt of %d: %d, %v", n, got, ok)
			}
		}
	}
	for _, s := range []string{"", "a", "ab", text(63), text(64), text(9000)} {
		for _, behind := range behinds() {
			var g given
			got, rest, ok := wire.ReadText(g.text(plainInt(len(s))+s+behind), len(s))
			checkTurned(t, "ReadText", &g, got+", "+rest, s+", "+behind)
			if !ok || got != s || rest != behind { // once more: what the line above put together was so already
				t.Errorf("ReadText of %x turns with what was given: %x, %x", few(s), few(got), few(rest))
			}
		}
	}
	for _, c := range commands() {
		var g given
		got, _ := wire.ReadCommand(g.text(plainCommand(c)))
		if !g.turn() || got != counted(c) {
			t.Errorf("ReadCommand of %v, turned: %v", fewOf(c), fewOf(got))
		}
	}
	for _, x := range states() {
		var g given
		got, _ := wire.ReadState(g.text(plainState(x)))
		if !g.turn() || !sameState(got, x) {
			t.Errorf("ReadState of %v, turned: %v", fewOfState(x), fewOfState(got))
		}
	}
}

// No list of a state that was read shares memory with another one of it, or of one that was read of the same bytes.
func TestListsThatAreReadShareNothing(t *testing.T) {
	for _, x := range states() {
		s := plainState(x)
		a, _ := wire.ReadState(s)
		b, _ := wire.ReadState(s)
		spoil(a)
		if !sameState(b, x) {
			t.Errorf("%v, spoilt with another one: %v", fewOfState(x), fewOfState(b))
		}
		spoilAll(b.Feeds, "spoilt")
		if !slices.Equal(b.Entries, x.Entries) || !slices.Equal(b.Read, x.Read) {
			t.Errorf("%v, Feeds spoilt: %v", fewOfState(x), fewOfState(b))
		}
		spoilAll(b.Read, key("spoilt", "spoilt"))
		if !slices.Equal(b.Entries, x.Entries) {
			t.Errorf("%v, Read spoilt: %v", fewOfState(x), fewOfState(b))
		}
		if c, ok := wire.ReadState(s); !ok || !sameState(c, x) {
			t.Errorf("%v, read once more: %v", fewOfState(x), fewOfState(c))
		}
	}
}

func TestNothingIsKept(t *testing.T) {
	x, a, c := some(), answered(0), full(3)
	for _, m := range sample.Mixed(500) {
		s := sample.Bytes(m>>8, 300)
		wire.Int(int(m))
		wire.ReadInt(s)
		wire.Text(s)
		wire.ReadText(s, int(m))
		wire.Command(mixedCommand(m))
		wire.ReadCommand(s)
		wire.ReadCommand(wire.Command(mixedCommand(m)))
		wire.State(mixedState(m))
		wire.ReadState(s)
		wire.ReadState(wire.State(mixedState(m)))
		wire.Answer(mixedAnswer(m))
		checkInt(t, 300, "\xd8\x04")
		checkText(t, "ab")
		checkCommand(t, c, plainCommand(c))
		checkNoCommand(t, "\x01", api.ErrForm)
		checkState(t, x, plainState(x))
		checkState(t, api.State{}, "\x00\x00\x00\x00\x00\x00")
		checkNoState(t, "\x00")
		checkAnswer(t, a, plainAnswer(a))
	}
}
