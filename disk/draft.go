package disk

import (
	"slices"
	"strings"

	"newsreel/api"
)

// draft is a file while operations are done. Its bytes stay in the pieces in which they came, so that a long file isn't copied once for each operation.
type draft struct {
	name   string
	pieces []string
	size   int
}

// more: x, and s behind it.
func (x draft) more(s string) draft {
	return draft{x.name, append(x.pieces, s), x.size + len(s)}
}

// less: the first bytes of x, so many as size says; x has them.
func (x draft) less(size int) draft {
	for x.size > size {
		last := len(x.pieces) - 1
		piece := x.pieces[last]
		x = draft{x.name, x.pieces[:last], x.size - len(piece)}
		if x.size < size {
			x = x.more(piece[:size-x.size])
		}
	}
	return x
}

// text: the bytes of x, in new memory.
func (x draft) text() string {
	var b strings.Builder
	b.Grow(x.size)
	for _, s := range x.pieces {
		b.WriteString(s)
	}
	return b.String()
}

// written: the files of drafts, in new memory.
func written(l []draft) []api.File {
	var files []api.File
	for _, x := range l {
		files = append(files, api.File{Name: strings.Clone(x.name), Data: x.text()})
	}
	return files
}

// find: where the file of that name is, or would be, and whether it is there.
func find(l []draft, name string) (int, bool) {
	return slices.BinarySearchFunc(l, name, func(x draft, name string) int { return strings.Compare(x.name, name) })
}

// drafts: the files of d; false, if it may not be.
func drafts(d api.Disk) ([]draft, bool) {
	if len(d.Files) > api.MaxFiles || len(d.Loose) > maxLoose {
		return nil, false
	}
	for i, f := range d.Files {
		if !Name(f.Name) || len(f.Data) > api.MaxFrames || i > 0 && f.Name <= d.Files[i-1].Name {
			return nil, false
		}
	}
	return done(d.Files, d.Loose)
}

// done: the files, these operations done; false, if one may not be.
func done(files []api.File, ops []api.Op) ([]draft, bool) {
	var l []draft
	for _, f := range files {
		l = append(l, draft{name: f.Name}.more(f.Data))
	}
	for _, o := range ops {
		if fault(l, o) != api.OK {
			return nil, false
		}
		l = step(l, o)
	}
	return l, true
}
