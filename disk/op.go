package disk

import (
	"slices"
	"strings"

	"newsreel/api"
)

// fault: why o may not be on these files; OK, if it may. What an operation's kind doesn't use may be anything.
func fault(l []draft, o api.Op) api.Code {
	if o.Kind < api.OpAppend || o.Kind > api.OpDrop || !Name(o.Name) || o.Kind == api.OpRename && !Name(o.To) {
		return api.ErrArg
	}
	at, there := find(l, o.Name)
	switch {
	case o.Kind == api.OpAppend && there:
		return tooLong(l[at].size + len(o.Data))
	case o.Kind == api.OpAppend && len(l) >= api.MaxFiles:
		return api.ErrFull
	case o.Kind == api.OpAppend:
		return tooLong(len(o.Data))
	case !there:
		return api.ErrNone
	case o.Kind == api.OpCut && (o.Size < 0 || o.Size > l[at].size):
		return api.ErrArg
	}
	return api.OK
}

// tooLong: ErrLong, if a file may not have so many bytes.
func tooLong(size int) api.Code {
	if size > api.MaxFrames {
		return api.ErrLong
	}
	return api.OK
}

// step: the files, o done, which may be.
func step(l []draft, o api.Op) []draft {
	at, there := find(l, o.Name)
	switch o.Kind {
	case api.OpAppend:
		if !there {
			l = slices.Insert(l, at, draft{name: o.Name})
		}
		l[at] = l[at].more(o.Data)
	case api.OpCut:
		l[at] = l[at].less(o.Size)
	case api.OpRename:
		return renamed(l, at, o.To)
	case api.OpDrop:
		return slices.Delete(l, at, at+1)
	}
	return l
}

// renamed: the files, the one at that place called so.
func renamed(l []draft, at int, to string) []draft {
	x := l[at]
	x.name = to
	l = slices.Delete(l, at, at+1) // first, so that a file may be called what it is called already
	at, there := find(l, to)
	if !there {
		return slices.Insert(l, at, x)
	}
	l[at] = x
	return l
}

// copied: o, its texts in new memory.
func copied(o api.Op) api.Op {
	o.Name, o.To, o.Data = strings.Clone(o.Name), strings.Clone(o.To), strings.Clone(o.Data)
	return o
}
