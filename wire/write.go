package wire

import (
	"strings"

	"newsreel/api"
)

// A number's bytes have seven bits each; each but the last one says by one more that others follow.
const (
	bits    = 7
	follows = 1 << bits
)

// sigBytes: how many bytes a signature has.
const sigBytes = 8

// doubled: the number whose bits are the bytes of n.
func doubled(n int) uint {
	if n < 0 {
		return uint(^n)*2 + 1 // ^n is the opposite less 1: that of the least number is more than an int has
	}
	return uint(n) * 2
}

// writer puts bytes together, piece by piece.
type writer struct{ strings.Builder }

func (w *writer) number(n int) {
	left := doubled(n)
	for left >= follows {
		w.WriteByte(byte(left) | follows)
		left >>= bits
	}
	w.WriteByte(byte(left))
}

func (w *writer) text(s string) {
	w.number(len(s))
	w.WriteString(s)
}

func (w *writer) key(k api.Key) {
	w.text(k.Feed)
	w.text(k.Guid)
}

func (w *writer) sig(n uint64) {
	for i := range sigBytes {
		w.WriteByte(byte(n >> (8 * i)))
	}
}

// truth writes 1 of what is so, else 0.
func (w *writer) truth(so bool) {
	if so {
		w.number(1)
	} else {
		w.number(0)
	}
}

// list writes how many there are, and they.
func list[T any](w *writer, l []T, one func(T)) {
	w.number(len(l))
	for _, x := range l {
		one(x)
	}
}

func (w *writer) command(c api.Command) {
	w.WriteByte(byte(c.Kind))
	switch c.Kind {
	case api.CmdSubscribe, api.CmdUnsubscribe:
		w.text(c.Feed)
	case api.CmdSubmit:
		w.text(c.Feed)
		w.text(c.Doc)
	case api.CmdTick:
		w.number(c.N)
	case api.CmdRead, api.CmdUnread, api.CmdDetail:
		w.text(c.Feed)
		w.text(c.Guid)
	case api.CmdRiver:
		w.number(c.Filter)
		w.number(c.N)
		w.text(c.Cursor)
	}
}

func (w *writer) entry(x api.Entry) {
	w.key(x.Key)
	w.text(x.Title)
	w.text(x.Link)
	w.text(x.Body)
	w.number(x.Stamp)
	w.sig(x.Sig)
}

func (w *writer) state(x api.State) {
	w.number(x.Now)
	w.number(x.Floor)
	w.number(x.Epoch)
	list(w, x.Feeds, w.text)
	list(w, x.Entries, w.entry)
	list(w, x.Read, w.key)
}

func (w *writer) cluster(c api.Cluster) {
	w.key(c.Rep)
	list(w, c.Members, w.key)
	w.number(c.Feeds)
	w.number(c.Newest)
	w.number(c.Score)
	w.truth(c.Read)
}

func (w *writer) answer(a api.Answer) {
	w.number(int(a.Code))
	if a.Code != api.OK {
		return
	}
	w.number(a.New)
	w.number(a.Epoch)
	list(w, a.Clusters, w.cluster)
	list(w, a.Entries, w.entry)
	w.text(a.Cursor)
	for _, n := range a.Counts {
		w.number(n)
	}
}
