package wire

import (
	"strings"

	"newsreel/api"
)

// reader cuts what it reads off the beginning of the bytes that are left. Once a piece wasn't there, it is bad: nothing is left, and nothing is read.
type reader struct {
	rest string
	bad  bool
}

func (r *reader) fail() {
	r.rest, r.bad = "", true
}

// ended: whether all was there, and nothing is left.
func (r *reader) ended() bool {
	return !r.bad && r.rest == ""
}

// piece cuts off so many bytes.
func (r *reader) piece(size int) string {
	if size < 0 || size > len(r.rest) {
		r.fail()
		return ""
	}
	s := r.rest[:size]
	r.rest = r.rest[size:]
	return s
}

// number cuts off a number.
func (r *reader) number() int {
	n := uint(0)
	for i := range len(r.rest) {
		b := uint(r.rest[i])
		n |= b % follows << (bits * i)
		if b >= follows {
			continue
		}
		if b == 0 && i > 0 || n>>(bits*i) != b {
			break // a byte more than it needs, or bits that no int has
		}
		r.rest = r.rest[i+1:]
		return halved(n)
	}
	r.fail()
	return 0
}

// halved: the number whose bytes have the bits of n.
func halved(n uint) int {
	if n%2 == 1 {
		return ^int(n / 2)
	}
	return int(n / 2)
}

// text cuts off a text of at most so many bytes; it is new memory.
func (r *reader) text(most int) string {
	size := r.number()
	if size > most {
		r.fail()
		return ""
	}
	return strings.Clone(r.piece(size))
}

func (r *reader) feed() string {
	return r.text(api.MaxFeedID)
}

func (r *reader) key() api.Key {
	return api.Key{Feed: r.feed(), Guid: r.text(api.MaxGuid)}
}

func (r *reader) sig() uint64 {
	s := r.piece(sigBytes)
	n := uint64(0)
	for i := range len(s) {
		n |= uint64(s[i]) << (8 * i)
	}
	return n
}

// listed cuts off how many there are, and they.
func listed[T any](r *reader, one func() T) []T {
	count := r.number()
	if count < 0 {
		r.fail()
	}
	var l []T
	for range count {
		x := one()
		if r.bad {
			return nil // the count may be far more than there are
		}
		l = append(l, x)
	}
	return l
}

// command cuts off a command, of which no text is bounded but by what is left.
func (r *reader) command() api.Command {
	kind := r.piece(1)
	if r.bad {
		return api.Command{}
	}
	const most = api.MaxCommand
	c := api.Command{Kind: int(kind[0])}
	switch c.Kind {
	case api.CmdSubscribe, api.CmdUnsubscribe:
		c.Feed = r.text(most)
	case api.CmdSubmit:
		c.Feed, c.Doc = r.text(most), r.text(most)
	case api.CmdTick:
		c.N = r.number()
	case api.CmdRead, api.CmdUnread, api.CmdDetail:
		c.Feed, c.Guid = r.text(most), r.text(most)
	case api.CmdRiver:
		c.Filter, c.N, c.Cursor = r.number(), r.number(), r.text(most)
	case api.CmdCheckpoint, api.CmdStats:
	default:
		r.fail()
	}
	return c
}

func (r *reader) entry() api.Entry {
	const most = api.MaxRecord
	return api.Entry{
		Key:   r.key(),
		Title: r.text(most),
		Link:  r.text(most),
		Body:  r.text(most),
		Stamp: r.number(),
		Sig:   r.sig(),
	}
}

func (r *reader) state() api.State {
	return api.State{
		Now:     r.number(),
		Floor:   r.number(),
		Epoch:   r.number(),
		Feeds:   listed(r, r.feed),
		Entries: listed(r, r.entry),
		Read:    listed(r, r.key),
	}
}
