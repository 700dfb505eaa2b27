package disk_test

import (
	"math"
	"slices"
	"strings"
	"testing"

	"newsreel/api"
	"newsreel/disk"
	"newsreel/sample"
)

// checkLeft: the crash leaves just these files of d, whatever the fuses are, up or down.
func checkLeft(t *testing.T, d api.Disk, c api.Crash, want ...api.File) {
	t.Helper()
	for _, n := range []int{2, 0, -1, math.MinInt, math.MaxInt} {
		left := fused(safe(want...), n)
		checkFall(t, d, c, n, left, api.OK)
		checkFall(t, fused(d, 0), c, n, left, api.OK)
		checkFall(t, fused(d, n), c, n, left, api.OK)
		checkFall(t, fused(down(d), 1), c, n, left, api.OK)
		checkFiles(t, left, want...)
	}
}

// keeps: numbers that keep n operations of so many.
func keeps(n, all int) []int {
	l := []int{n}
	if n == 0 {
		l = append(l, -1, -2, -1<<31, -1<<32, math.MinInt+1, math.MinInt)
	}
	if n == all {
		l = append(l, n+1, n+2, 4096, 4097, 1<<31, 1<<32, math.MaxInt-1, math.MaxInt)
	}
	return l
}

// none: numbers of bytes that leave nothing of the next operation.
func none() []int {
	return []int{0, -1, -2, -1 << 31, -1 << 32, -1<<32 + 1, math.MinInt + 1, math.MinInt}
}

// bytes: numbers of bytes that leave n of the next operation's, which has so many.
func bytes(n, all int) []int {
	if n < all {
		return []int{n}
	}
	return []int{max(n, 1), n + 1, n + 2, 1 << 20, 1<<20 + 1, 1 << 31, 1 << 32, 1<<32 + 1, math.MaxInt - 1, math.MaxInt}
}

// What is kept of a row of operations, each next one torn or not.
func TestKeepAndBytes(t *testing.T) {
	d := with(safe(files("a", "12", "b", "34")...), add("a", "xyz"), add("c", ""), cut("b", 1), add("c", "uvw"), call("a", "d"), drop("c"), add("d", "!"))
	after := [][]api.File{
		files("a", "12", "b", "34"),
		files("a", "12xyz", "b", "34"),
		files("a", "12xyz", "b", "34", "c", ""),
		files("a", "12xyz", "b", "3", "c", ""),
		files("a", "12xyz", "b", "3", "c", "uvw"),
		files("b", "3", "c", "uvw", "d", "12xyz"),
		files("b", "3", "d", "12xyz"),
		files("b", "3", "d", "12xyz!"),
	}
	torn := map[int][][]api.File{ // by operation, then by how many bytes of it are left, from 1 on
		0: {files("a", "12x", "b", "34"), files("a", "12xy", "b", "34"), after[1]},
		1: {after[2]}, // without any Data, too
		3: {files("a", "12xyz", "b", "3", "c", "u"), files("a", "12xyz", "b", "3", "c", "uv"), after[4]},
		6: {after[7]},
	}
	for n, want := range after {
		for _, keep := range keeps(n, len(d.Loose)) {
			for _, b := range none() {
				checkLeft(t, d, api.Crash{Keep: keep, Bytes: b}, want...)
			}
			if torn[n] == nil { // no next one, or another kind
				for _, b := range []int{1, 2, 3, 1 << 20, math.MaxInt} {
					checkLeft(t, d, api.Crash{Keep: keep, Bytes: b}, want...)
				}
			}
			for i, want := range torn[n] {
				for _, b := range bytes(i+1, len(torn[n])) {
					checkLeft(t, d, api.Crash{Keep: keep, Bytes: b}, want...)
				}
			}
		}
	}
}

// A next operation of each kind; but of OpAppend nothing is left of it, whatever its Data is.
func TestTheNextOperation(t *testing.T) {
	l := files("a", "12", "b", "34")
	for _, o := range []api.Op{cut("a", 0), cut("a", 1), call("a", "b"), call("a", "a"), call("a", "c"), drop("a")} {
		o.Data = "xyz"
		for _, b := range []int{math.MinInt, -1, 0, 1, 2, 3, 4, math.MaxInt} {
			checkLeft(t, with(safe(l...), o), api.Crash{Bytes: b}, l...)
			checkLeft(t, with(safe(l...), o), api.Crash{Bytes: b, Burst: true, Bits: 1}, l...)
			checkLeft(t, with(safe(l...), add("b", "5"), o, add("b", "6")), api.Crash{Keep: 1, Bytes: b}, files("a", "12", "b", "345")...)
			checkLeft(t, with(safe(l...), add("b", "\x00"), o, add("b", "6")), api.Crash{Keep: 1, Bytes: b, Burst: true, Bits: 1}, files("a", "12", "b", "34\x01")...)
		}
	}
	checkLeft(t, with(safe(l...), add("a", "x"), add("b", "y")), api.Crash{Bytes: 1}, files("a", "12x", "b", "34")...) // not the one behind it
	checkLeft(t, with(safe(), add("a", "")), api.Crash{Bytes: 1}, files("a", "")...)
	checkLeft(t, with(safe(), add("a", "")), api.Crash{})
	checkLeft(t, with(safe(), add("a", "x"), drop("a")), api.Crash{Keep: 1, Bytes: 1}, files("a", "x")...)
}

// Nothing is loose: nothing is lost, nothing turned.
func TestCrashesOfWhatIsSafe(t *testing.T) {
	for _, l := range [][]api.File{nil, files("a", ""), files("a", "1", "b", "23"), many(8, "x")} {
		for _, n := range append(sample.Away(1), 0, 1) {
			checkLeft(t, safe(l...), api.Crash{Keep: n, Bytes: 1}, l...)
			checkLeft(t, safe(l...), api.Crash{Bytes: n}, l...)
			checkLeft(t, safe(l...), api.Crash{Keep: 1, Bytes: 1, Burst: true, At: n, Bits: math.MaxUint32}, l...)
		}
	}
}

func TestBursts(t *testing.T) {
	const zero = "\x00\x00\x00\x00\x00\x00\x00\x00"
	d := with(safe(files("a", zero, "s", zero)...), add("a", zero[:2]), add("b", ""), cut("a", 9), add("b", zero[:3])) // 40 bits: 16 of a, of which 8 are cut away behind it; 24 of b
	for _, row := range []struct {
		at   int
		by   uint32
		a, b string // what is appended, behind the burst
	}{
		{0, 0, "\x00", "\x00\x00\x00"},
		{0, 1, "\x01", "\x00\x00\x00"},
		{1, 1, "\x02", "\x00\x00\x00"},
		{7, 1, "\x80", "\x00\x00\x00"},
		{7, 3, "\x80", "\x00\x00\x00"}, // a bit of what is cut away
		{8, 1, "\x00", "\x00\x00\x00"},
		{15, 1, "\x00", "\x00\x00\x00"},
		{16, 1, "\x00", "\x01\x00\x00"},
		{39, 1, "\x00", "\x00\x00\x80"}, // the last one
		{39, 3, "\x00", "\x00\x00\x80"}, // beyond it nothing is turned
		{39, math.MaxUint32, "\x00", "\x00\x00\x80"},
		{40, 1, "\x01", "\x00\x00\x00"}, // from the first one on again
		{41, 1, "\x02", "\x00\x00\x00"},
		{79, 1, "\x00", "\x00\x00\x80"},
		{80, 1, "\x01", "\x00\x00\x00"},
		{0, 1 << 31, "\x00", "\x00\x80\x00"},
		{8, 1 << 31, "\x00", "\x00\x00\x80"},
		{9, 1 << 31, "\x00", "\x00\x00\x00"},
		{0, math.MaxUint32, "\xff", "\xff\xff\x00"}, // over both operations' Data
		{4, math.MaxUint32, "\xf0", "\xff\xff\x0f"},
		{8, math.MaxUint32, "\x00", "\xff\xff\xff"},
		{15, math.MaxUint32, "\x00", "\xff\xff\xff"},
		{16, math.MaxUint32, "\x00", "\xff\xff\xff"},
		{17, math.MaxUint32, "\x00", "\xfe\xff\xff"},
		{12, 0x12345678, "\x00", "\x67\x45\x23"},
		{20, 0x12345678, "\x00", "\x80\x67\x45"},
		{-1, 1, "\x00", "\x00\x00\x00"}, // 2^64 - 1, divided by 40: 15 is left, a bit of what is cut away
		{-1, 3, "\x00", "\x01\x00\x00"},
	} {
		c := api.Crash{Keep: 4, Burst: true, At: row.at, Bits: row.by}
		checkLeft(t, d, c, files("a", zero+row.a, "b", row.b, "s", zero)...)
		c.Burst = false
		checkLeft(t, d, c, files("a", zero+"\x00", "b", "\x00\x00\x00", "s", zero)...)
	}
}

// At as a number of 64 bits without sign: what is left of it by each number of bits.
func TestPlacesOfBursts(t *testing.T) {
	for _, row := range []struct {
		size, at, bit int
	}{
		{1, -1, 7}, {1, -2, 6}, {1, -8, 0}, {1, -9, 7}, {1, math.MinInt, 0}, {1, math.MaxInt, 7}, {1, math.MinInt + 3, 3}, {1, 8, 0}, {1, 1 << 32, 0},
		{3, -1, 15}, {3, -2, 14}, {3, -16, 0}, {3, -17, 23}, {3, math.MaxInt, 7}, {3, math.MaxInt - 7, 0}, {3, math.MaxInt - 8, 23}, {3, math.MinInt, 8}, {3, math.MinInt + 15, 23}, {3, math.MinInt + 16, 0}, {3, 24, 0}, {3, 23, 23}, {3, 1 << 31, 8}, {3, 1 << 32, 16}, {3, 1 << 62, 16},
		{5, -1, 15}, {5, math.MinInt, 8}, {5, math.MaxInt, 7},
		{7, -1, 15}, {7, math.MinInt, 8}, {7, math.MaxInt, 7}, {7, 1<<32 + 5, 37}, {7, -1 << 32, 40},
		{8, -1, 63}, {8, math.MinInt, 0}, {8, -64, 0}, {8, 64, 0}, {8, math.MaxInt, 63},
	} {
		want := make([]byte, row.size)
		want[row.bit/8] = 1 << (row.bit % 8)
		zero := repeat("\x00", row.size)
		c := api.Crash{Keep: row.size, Burst: true, At: row.at, Bits: 1}
		checkLeft(t, with(safe(files("s", zero)...), add("a", zero)), c, files("a", string(want), "s", zero)...)
		d := safe(files("s", zero)...) // byte by byte
		for range row.size {
			d = with(d, add("a", "\x00"))
		}
		checkLeft(t, d, c, files("a", string(want), "s", zero)...)
	}
}

// Each place and many bits, over Data of many lengths, that are kept, torn, or without any bytes.
func TestBurstsAtEachPlace(t *testing.T) {
	d := with(safe(files("a", "safe")...), add("a", "x"), add("b", ""), add("b", "yz"), call("a", "c"), add("d", "\xff"), add("c", "12345"), cut("c", 6), add("a", "\x00"))
	for keep := range len(d.Loose) + 1 {
		for _, b := range []int{0, 1, 3, 9} {
			for at := range 8*10 + 3 {
				for _, by := range []uint32{0, 1, 1 << 31, math.MaxUint32, 0x80000001, 0x00ff00ff, uint32(sample.Mixed(100)[at])} {
					c := api.Crash{Keep: keep, Bytes: b, Burst: true, At: at, Bits: by}
					left, code := plainFall(d, c, 4)
					checkFall(t, d, c, 4, left, code)
				}
			}
		}
	}
}

// A burst counts by what is left: bytes that are torn off are none.
func TestBurstsInWhatIsTorn(t *testing.T) {
	d := with(safe(), add("a", "\x00"), add("b", "\x00\x00\x00"))
	for _, row := range []struct {
		bytes, at int
		by        uint32
		want      []api.File
	}{
		{0, 8, 1, files("a", "\x01")},
		{1, 8, 1, files("a", "\x00", "b", "\x01")},
		{1, 16, 1, files("a", "\x01", "b", "\x00")},
		{1, 7, math.MaxUint32, files("a", "\x80", "b", "\xff")}, // into what is torn off
		{1, 15, math.MaxUint32, files("a", "\x00", "b", "\x80")},
		{2, 7, math.MaxUint32, files("a", "\x80", "b", "\xff\xff")},
		{2, 23, 3, files("a", "\x00", "b", "\x00\x80")},
		{2, 24, 3, files("a", "\x03", "b", "\x00\x00")},
		{3, 7, math.MaxUint32, files("a", "\x80", "b", "\xff\xff\xff")},
		{3, 31, 1, files("a", "\x00", "b", "\x00\x00\x80")},
		{4, 32, 1, files("a", "\x01", "b", "\x00\x00\x00")},
	} {
		checkLeft(t, d, api.Crash{Keep: 1, Bytes: row.bytes, Burst: true, At: row.at, Bits: row.by}, row.want...)
	}
}

// No Data at all is left: nothing is turned, whatever is safe.
func TestBurstsInNoData(t *testing.T) {
	l := files("a", "12", "b", "")
	for _, d := range []api.Disk{safe(l...), with(safe(l...), add("c", "")), with(safe(l...), cut("a", 2), call("a", "a")), with(safe(l...), add("a", ""), add("b", ""))} {
		for _, at := range append(sample.Away(1), 0, 1, 7, 8) {
			for _, by := range []uint32{0, 1, 1 << 31, math.MaxUint32} {
				checkLeft(t, d, api.Crash{Keep: 9, Bytes: 9, Burst: true, At: at, Bits: by}, disk.Files(d)...)
			}
		}
	}
	d := with(safe(l...), add("a", "xyz"))
	checkLeft(t, d, api.Crash{Burst: true, Bits: math.MaxUint32}, l...)
}

// Data of operations that don't append isn't turned, nor is it counted.
func TestBurstsPassOverOtherKinds(t *testing.T) {
	var ops []api.Op
	for _, o := range []api.Op{cut("a", 1), call("a", "b"), call("b", "a"), add("a", "\x00"), call("a", "a"), drop("s"), add("a", "\x00")} {
		if o.Kind != api.OpAppend {
			o.Data = "\x00\x00\x00"
		}
		ops = append(ops, o)
	}
	d := with(safe(files("a", "12", "s", "")...), ops...)
	checkLeft(t, d, api.Crash{Keep: 9, Burst: true, At: 0, Bits: 0x0201}, files("a", "1\x01\x02")...)
	checkLeft(t, d, api.Crash{Keep: 9, Burst: true, At: 15, Bits: 1}, files("a", "1\x00\x80")...)
	checkLeft(t, d, api.Crash{Keep: 9, Burst: true, At: 16, Bits: 1}, files("a", "1\x01\x00")...)
}

// What was turned is taken as it is by the operations behind it.
func TestBurstsAreKept(t *testing.T) {
	d := with(safe(), add("a", "\x00\x00"), add("b", "\x00"), call("a", "b"), cut("b", 1), add("b", "\x00"))
	checkLeft(t, d, api.Crash{Keep: 9, Burst: true, At: 7, Bits: 1 | 1<<17 | 1<<24}, files("b", "\x80\x81")...)
}

// A disk that a crash left is one that goes on: a second crash takes nothing of it.
func TestOneCrashBehindAnother(t *testing.T) {
	d := with(safe(files("a", "1")...), add("a", "234"), add("b", "5"))
	first, _ := disk.Fall(d, api.Crash{Bytes: 2}, 1)
	checkLeft(t, first, api.Crash{Keep: 5, Bytes: 5, Burst: true, Bits: 1}, files("a", "123")...)
	next, code := disk.Do(first, add("a", "6"))
	checkDisk(t, "Do", next, code, fused(with(safe(files("a", "123")...), add("a", "6")), 0), api.OK)
	next, code = disk.Sync(next)
	checkDisk(t, "Sync", next, code, down(fused(with(safe(files("a", "123")...), add("a", "6")), 0)), api.ErrDown)
	checkLeft(t, next, api.Crash{}, files("a", "123")...)
	checkLeft(t, next, api.Crash{Keep: 1}, files("a", "1236")...)
}

// P20.4: what was made safe outlives every crash, but what operations behind it touched.

// touched: the names of files that operations cut, named, dropped or made, and of those to which they appended.
func touched(ops []api.Op) (changed, longer []string) {
	for _, o := range ops {
		switch o.Kind {
		case api.OpAppend:
			longer = append(longer, o.Name)
		case api.OpRename:
			changed = append(changed, o.Name, o.To)
		default:
			changed = append(changed, o.Name)
		}
	}
	return changed, longer
}

// checkOutlives: behind that crash of d the files that were safe are as they were, but for what is loose.
func checkOutlives(t *testing.T, d api.Disk, c api.Crash) {
	t.Helper()
	left, code := disk.Fall(d, c, -1)
	if code != api.OK || !disk.Right(left) || len(left.Loose) != 0 {
		t.Fatalf("Fall(%+v, %+v): %+v, %v", few(d), c, few(left), code)
	}
	changed, longer := touched(d.Loose)
	for _, f := range d.Files {
		got, code := disk.Get(left, f.Name)
		switch {
		case slices.Contains(changed, f.Name):
		case code != api.OK, !slices.Contains(longer, f.Name) && got != f.Data, !strings.HasPrefix(got, f.Data):
			t.Errorf("%s of %+v behind %+v: %.40q, %v", f.Name, few(d), c, got, code)
		}
	}
	want, _ := plainFall(d, c, -1)
	checkDisk(t, "Fall", left, code, want, api.OK)
}

// crashes: each Keep of so many operations, and many Bytes and bursts.
func crashes(many int) []api.Crash {
	var l []api.Crash
	for keep := -1; keep <= many+1; keep++ {
		for _, b := range []int{-1, 0, 1, 2, 9} {
			l = append(l, api.Crash{Keep: keep, Bytes: b}, api.Crash{Keep: keep, Bytes: b, Burst: true, At: 3, Bits: math.MaxUint32}, api.Crash{Keep: keep, Bytes: b, Burst: true, At: -keep - 7, Bits: 0x81})
		}
	}
	return l
}

func TestWhatIsSafeOutlivesCrashes(t *testing.T) {
	parts := []api.Op{add("a", "xy"), add("b", ""), add("c", "z"), cut("a", 1), call("a", "b"), call("b", "c"), call("c", "a"), drop("a"), drop("b")}
	for l := range sample.Lists(parts, 3) {
		ops := slices.Clone(l)
		for n := range len(ops) + 1 {
			d := with(safe(files("a", "123", "b", "45")...), ops[:n]...)
			if !plainRight(d) {
				break
			}
			d, code := disk.Sync(d) // these are safe
			if code != api.OK {
				t.Fatalf("Sync: %v", code)
			}
			kept := slices.Clone(d.Files)
			if d = with(d, ops[n:]...); !plainRight(d) {
				continue
			}
			for _, c := range crashes(len(ops) - n) {
				checkOutlives(t, d, c)
			}
			left, _ := disk.Fall(d, api.Crash{Keep: -1}, -1)
			if !slices.Equal(left.Files, kept) {
				t.Errorf("a crash that leaves nothing of %+v: %+v", d, left)
			}
			whole, _ := disk.Fall(d, api.Crash{Keep: len(d.Loose)}, -1)
			if !slices.Equal(whole.Files, disk.Files(d)) {
				t.Errorf("a crash that leaves all of %+v: %+v", d, whole)
			}
		}
	}
}
