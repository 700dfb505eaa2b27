package disk

import (
	"slices"

	"newsreel/api"
	"newsreel/crc"
)

// Fall: d behind the crash, with that fuse; ErrArg, if it may not be.
func Fall(d api.Disk, c api.Crash, fuse int) (api.Disk, api.Code) {
	if !Right(d) {
		return apart(d), api.ErrArg
	}
	l, _ := done(d.Files, left(d.Loose, c)) // the first of operations that may be, they may be too
	return api.Disk{Files: written(l), Fuse: fuse}, api.OK
}

// left: what the crash leaves of loose operations.
func left(ops []api.Op, c api.Crash) []api.Op {
	n := min(max(c.Keep, 0), len(ops))
	l := slices.Clone(ops[:n])
	if n < len(ops) && ops[n].Kind == api.OpAppend && c.Bytes > 0 {
		torn := ops[n]
		torn.Data = torn.Data[:min(c.Bytes, len(torn.Data))]
		l = append(l, torn)
	}
	if c.Burst {
		turn(l, uint64(c.At), c.Bits)
	}
	return l
}

// turn turns the bits of a burst in the Data of those operations that append, as if it were one text.
func turn(l []api.Op, at uint64, by uint32) {
	all := bits(l)
	if all == 0 {
		return
	}
	from := int(at % uint64(all)) // counted from the Data that is next: below 0, where the burst began ahead of it
	for i, o := range l {
		n := bits(l[i : i+1])
		if n > 0 && from < n && from > -32 {
			l[i].Data = crc.Burst(o.Data, max(from, 0), by>>max(-from, 0))
		}
		from -= n
	}
}

// bits: how many bits the Data has of those operations that append.
func bits(l []api.Op) int {
	n := 0
	for _, o := range l {
		if o.Kind == api.OpAppend {
			n += 8 * len(o.Data)
		}
	}
	return n
}
