package disk_test

import (
	"maps"
	"math/big"
	"regexp"
	"slices"

	"newsreel/api"
)

// Other ways of telling what layer 20 tells: files as a map of whole texts, errors as a list of all that may be wrong, and the bits of a burst turned one by one in all that was appended, put together.

var names = regexp.MustCompile(`\A[a-z]{1,16}\z`)

// plainFault: the first error of the chapter's list that applies.
func plainFault(files map[string]string, o api.Op) api.Code {
	data, there := files[o.Name]
	for _, row := range []struct {
		wrong bool
		code  api.Code
	}{
		{!slices.Contains([]int{1, 2, 3, 4}, o.Kind), api.ErrArg},
		{!names.MatchString(o.Name), api.ErrArg},
		{o.Kind == 3 && !names.MatchString(o.To), api.ErrArg},
		{o.Kind != 1 && !there, api.ErrNone},
		{o.Kind == 2 && o.Size < 0, api.ErrArg},
		{o.Kind == 2 && o.Size > len(data), api.ErrArg},
		{o.Kind == 1 && !there && len(files) == 8, api.ErrFull},
		{o.Kind == 1 && len(o.Data) > 1048576-len(data), api.ErrLong},
	} {
		if row.wrong {
			return row.code
		}
	}
	return api.OK
}

// plainStep does o, which may be.
func plainStep(files map[string]string, o api.Op) {
	data := files[o.Name]
	switch o.Kind {
	case 1:
		files[o.Name] = data + o.Data
	case 2:
		files[o.Name] = data[:o.Size]
	case 3:
		delete(files, o.Name)
		files[o.To] = data
	case 4:
		delete(files, o.Name)
	}
}

// plainAfter: the files, these operations done; false, if one may not be.
func plainAfter(files []api.File, ops []api.Op) (map[string]string, bool) {
	m := map[string]string{}
	for _, f := range files {
		m[f.Name] = f.Data
	}
	for _, o := range ops {
		if plainFault(m, o) != api.OK {
			return nil, false
		}
		plainStep(m, o)
	}
	return m, true
}

func plainRight(d api.Disk) bool {
	var l []string
	for _, f := range d.Files {
		if !names.MatchString(f.Name) || len(f.Data) > 1048576 {
			return false
		}
		l = append(l, f.Name)
	}
	sorted := slices.Compact(slices.Sorted(slices.Values(l)))
	if len(l) > 8 || !slices.Equal(l, sorted) || len(d.Loose) > 4096 {
		return false
	}
	_, ok := plainAfter(d.Files, d.Loose)
	return ok
}

// plainList: the files by their names, rising.
func plainList(files map[string]string) []api.File {
	var l []api.File
	for _, name := range slices.Sorted(maps.Keys(files)) {
		l = append(l, api.File{Name: name, Data: files[name]})
	}
	return l
}

func plainFiles(d api.Disk) []api.File {
	if !plainRight(d) {
		return nil
	}
	files, _ := plainAfter(d.Files, d.Loose)
	return plainList(files)
}

// plainClosed: why nothing is done on d; OK, if something may be.
func plainClosed(d api.Disk) api.Code {
	if !plainRight(d) {
		return api.ErrArg
	}
	if d.Down {
		return api.ErrDown
	}
	return api.OK
}

// plainBurn: d behind one operation or sync more, and whether it was done.
func plainBurn(d api.Disk) (api.Disk, bool) {
	switch {
	case d.Fuse < 0:
		return d, true
	case d.Fuse > 0:
		return api.Disk{Files: d.Files, Loose: d.Loose, Fuse: d.Fuse - 1}, true
	}
	return api.Disk{Files: d.Files, Loose: d.Loose, Down: true}, false
}

func plainDo(d api.Disk, o api.Op) (api.Disk, api.Code) {
	if code := plainClosed(d); code != api.OK {
		return d, code
	}
	files, _ := plainAfter(d.Files, d.Loose)
	if code := plainFault(files, o); code != api.OK {
		return d, code
	}
	if len(d.Loose) == 4096 {
		return d, api.ErrFull
	}
	next, ok := plainBurn(d)
	if !ok {
		return next, api.ErrDown
	}
	next.Loose = slices.Concat(d.Loose, []api.Op{o})
	return next, api.OK
}

func plainSync(d api.Disk) (api.Disk, api.Code) {
	if code := plainClosed(d); code != api.OK {
		return d, code
	}
	next, ok := plainBurn(d)
	if !ok {
		return next, api.ErrDown
	}
	return api.Disk{Files: plainFiles(d), Fuse: next.Fuse}, api.OK
}

func plainGet(d api.Disk, name string) (string, api.Code) {
	if code := plainClosed(d); code != api.OK {
		return "", code
	}
	files, _ := plainAfter(d.Files, d.Loose)
	if data, there := files[name]; there {
		return data, api.OK
	}
	return "", api.ErrNone
}

func plainFall(d api.Disk, c api.Crash, fuse int) (api.Disk, api.Code) {
	if !plainRight(d) {
		return d, api.ErrArg
	}
	files, _ := plainAfter(d.Files, plainLeft(d.Loose, c))
	return api.Disk{Files: plainList(files), Fuse: fuse}, api.OK
}

// plainLeft: what a crash leaves of loose operations.
func plainLeft(loose []api.Op, c api.Crash) []api.Op {
	var l []api.Op
	for i, o := range loose {
		switch {
		case i < c.Keep:
			l = append(l, o)
		case i == max(c.Keep, 0) && c.Bytes > 0 && o.Kind == 1:
			if c.Bytes < len(o.Data) {
				o.Data = o.Data[:c.Bytes]
			}
			l = append(l, o)
		}
	}
	if c.Burst {
		return plainTurned(l, c.At, c.Bits)
	}
	return l
}

// plainTurned: the operations, a burst in all that they append.
func plainTurned(l []api.Op, at int, by uint32) []api.Op {
	var all []byte
	for _, o := range l {
		if o.Kind == 1 {
			all = append(all, o.Data...)
		}
	}
	if len(all) == 0 {
		return l
	}
	place := new(big.Int).SetUint64(uint64(at))
	place.Mod(place, big.NewInt(int64(8*len(all))))
	for k := range 32 {
		if bit := int(place.Int64()) + k; by>>k&1 == 1 && bit < 8*len(all) {
			all[bit/8] ^= 1 << (bit % 8)
		}
	}
	turned := slices.Clone(l)
	for i, o := range l {
		if o.Kind == 1 {
			turned[i].Data, all = string(all[:len(o.Data)]), all[len(o.Data):]
		}
	}
	return turned
}
