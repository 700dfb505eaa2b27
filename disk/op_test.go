package disk_test

import (
	"math"
	"slices"
	"testing"

	"newsreel/api"
	"newsreel/disk"
	"newsreel/sample"
)

// onFiles: disks that have these files: safe ones, loose ones, some of each.
func onFiles(l []api.File) []api.Disk {
	half := safe(l[:len(l)/2]...)
	for _, f := range l[len(l)/2:] {
		half.Loose = append(half.Loose, add(f.Name, ""), add(f.Name, f.Data))
	}
	return []api.Disk{safe(l...), made(l...), half}
}

// checkMay: o may be on these files, which it turns into those wanted.
func checkMay(t *testing.T, l []api.File, o api.Op, want ...api.File) {
	t.Helper()
	for _, d := range onFiles(l) {
		next := with(d, o)
		checkDo(t, d, o, next, api.OK)
		checkDo(t, fused(d, 1), o, fused(next, 0), api.OK)
		checkDo(t, fused(d, 0), o, down(fused(d, 0)), api.ErrDown)
		checkDo(t, down(d), o, down(d), api.ErrDown)
		checkFiles(t, next, want...)
		checkSync(t, next, safe(want...), api.OK)
		checkFall(t, next, api.Crash{Keep: len(next.Loose)}, 3, fused(safe(want...), 3), api.OK)
	}
}

// checkMayNot: o may not be on these files, for that reason; nor may a disk be on which it is loose.
func checkMayNot(t *testing.T, l []api.File, o api.Op, code api.Code) {
	t.Helper()
	for _, d := range onFiles(l) {
		checkDo(t, d, o, d, code)
		checkDo(t, fused(d, 1), o, fused(d, 1), code)
		checkDo(t, fused(d, 0), o, fused(d, 0), code) // ahead of the fuse
		checkDo(t, down(d), o, down(d), api.ErrDown)
		for _, d := range []api.Disk{with(d, o), with(d, o, add("a", ""))} {
			if plainRight(d) || disk.Right(d) {
				t.Errorf("Right(%+v): %v, the other way %v", few(d), disk.Right(d), plainRight(d))
			}
			if got := disk.Files(d); len(got) != 0 {
				t.Errorf("Files(%+v): %v", few(d), fewFiles(got))
			}
			checkDo(t, d, o, d, api.ErrArg)
			checkSync(t, d, d, api.ErrArg)
			checkGet(t, d, "a", "", api.ErrArg)
			checkFall(t, d, api.Crash{}, 0, d, api.ErrArg)
		}
	}
}

// everyKind: an operation of each kind on that file, which may be if the file is there.
func everyKind(name string) []api.Op {
	return []api.Op{add(name, "x"), cut(name, 0), call(name, "q"), drop(name)}
}

func TestKinds(t *testing.T) {
	for _, l := range [][]api.File{nil, files("a", "xyz", "b", "12"), many(8, "x")} {
		for _, kind := range kinds() {
			for _, o := range []api.Op{{}, add("a", "x"), add("nope", "x"), cut("a", 1), call("a", "b"), drop("b")} {
				o.Kind = kind
				checkMayNot(t, l, o, api.ErrArg)
			}
		}
	}
}

func TestNamesOfOperations(t *testing.T) {
	l := files("a", "xyz", "b", "12")
	for _, s := range noNames() {
		for _, o := range everyKind(s) {
			checkMayNot(t, l, o, api.ErrArg)
			checkMayNot(t, many(8, ""), o, api.ErrArg) // not ErrFull
		}
		checkMayNot(t, l, call("a", s), api.ErrArg)
		checkMayNot(t, l, call(s, "a"), api.ErrArg)
		checkMayNot(t, l, call("nope", s), api.ErrArg) // not ErrNone
		checkMayNot(t, l, call(s, s), api.ErrArg)
		for i, o := range everyKind("a") { // where a To isn't asked for it may be any
			if o.To = s; o.Kind != api.OpRename {
				checkMay(t, l, o, [][]api.File{files("a", "xyzx", "b", "12"), files("a", "", "b", "12"), nil, files("b", "12")}[i]...)
			}
		}
	}
	long := repeat("n", 16)
	checkMay(t, l, add(long, "x"), append(slices.Clone(l), files(long, "x")...)...)
	checkMay(t, l, call("b", long), files("a", "xyz", long, "12")...)
	checkMay(t, files(long, "x"), cut(long, 0), files(long, "")...)
	checkMay(t, files(long, "x"), drop(long))
}

func TestFilesThatAreNotThere(t *testing.T) {
	for _, l := range [][]api.File{nil, files("a", "xyz"), files("a", "xyz", "c", "12"), files("bb", "", "c", ""), many(1, "x")} {
		for _, o := range everyKind("b") {
			if o.Kind != api.OpAppend {
				checkMayNot(t, l, o, api.ErrNone)
			}
		}
		for _, n := range append(sample.Away(1), 0, 1, 2, 3) {
			checkMayNot(t, l, cut("b", n), api.ErrNone) // ahead of a wrong Size
		}
		checkMayNot(t, l, call("b", "a"), api.ErrNone)
		checkMayNot(t, l, call("b", "b"), api.ErrNone)
		checkMayNot(t, l, call("b", "B"), api.ErrArg)
	}
	checkMay(t, nil, add("b", "x"), files("b", "x")...)
	checkMay(t, nil, add("b", ""), files("b", "")...)
	checkMay(t, files("a", "1", "c", "2"), add("b", "x"), files("a", "1", "b", "x", "c", "2")...)
	checkMay(t, files("b", "1", "c", "2"), add("a", "x"), files("a", "x", "b", "1", "c", "2")...)
	checkMay(t, files("a", "1", "b", "2"), add("c", "x"), files("a", "1", "b", "2", "c", "x")...)
	checkMay(t, files("ab", "1"), add("a", "x"), files("a", "x", "ab", "1")...)
}

func TestAppend(t *testing.T) {
	checkMay(t, files("a", "xyz"), add("a", "12"), files("a", "xyz12")...)
	checkMay(t, files("a", "xyz"), add("a", ""), files("a", "xyz")...)
	checkMay(t, files("a", ""), add("a", "12"), files("a", "12")...)
	checkMay(t, files("a", "1", "b", "2", "c", "3"), add("b", "\x00\xff"), files("a", "1", "b", "2\x00\xff", "c", "3")...)
	for _, n := range append(sample.Away(3), 3, 4) { // no Size is asked for
		o := add("a", "12")
		o.Size = n
		checkMay(t, files("a", "xyz"), o, files("a", "xyz12")...)
		o.Name = "b"
		checkMay(t, files("a", "xyz"), o, files("a", "xyz", "b", "12")...)
	}
}

func TestHowManyFiles(t *testing.T) {
	for n := range 9 {
		l := many(n, "x")
		for _, o := range []api.Op{add("z", ""), add("z", "1")} {
			if n == 8 {
				checkMayNot(t, l, o, api.ErrFull)
			} else {
				checkMay(t, l, o, append(slices.Clone(l), files("z", o.Data)...)...)
			}
		}
		for i, f := range l {
			want := slices.Clone(l)
			want[i].Data = "x1"
			checkMay(t, l, add(f.Name, "1"), want...)
			want = slices.Delete(want, i, i+1)
			checkMay(t, l, drop(f.Name), want...)
			checkMay(t, l, call(f.Name, "z"), append(want, files("z", "x")...)...)
		}
	}
	checkMayNot(t, many(8, ""), add("z", repeat("x", 1<<20+1)), api.ErrFull) // ahead of ErrLong
	checkMayNot(t, many(8, ""), cut("z", 0), api.ErrNone)
	d := with(safe(many(8, "x")...), drop("c"))
	checkDo(t, d, add("z", "1"), with(d, add("z", "1")), api.OK)
	d = with(d, call("d", "e"), add("z", "1"))
	checkDo(t, d, add("y", "1"), with(d, add("y", "1")), api.OK)
	d = with(d, add("y", "1"))
	checkDo(t, d, add("w", "1"), d, api.ErrFull)
}

func TestCut(t *testing.T) {
	for _, s := range []string{"", "x", "xyz", "\x00\xff\x80", repeat("abc", 100)} {
		l := files("a", "1", "b", s, "c", "2")
		for n := range len(s) + 1 {
			checkMay(t, l, cut("b", n), files("a", "1", "b", s[:n], "c", "2")...)
		}
		for _, n := range append(sample.Away(len(s)+1), -len(s), len(s)+2) {
			if n < 0 || n > len(s) {
				checkMayNot(t, l, cut("b", n), api.ErrArg)
			}
		}
	}
	for _, n := range []int{-1, 0, 3, 4, math.MaxInt} { // no Size is asked for
		o := call("a", "b")
		o.Size = n
		checkMay(t, files("a", "xyz"), o, files("b", "xyz")...)
		o = drop("a")
		o.Size = n
		checkMay(t, files("a", "xyz"), o)
	}
}

// A file that came in many pieces is cut within each of them, and at its ends.
func TestCutWithinPieces(t *testing.T) {
	pieces := []string{"ab", "", "c", "", "", "defg", "h", ""}
	d := safe(files("f", "01")...)
	whole := "01"
	for _, s := range pieces {
		d = with(d, add("f", s))
		whole += s
		for n := range len(whole) + 1 {
			checkFiles(t, with(d, cut("f", n)), files("f", whole[:n])...)
			checkFiles(t, with(d, cut("f", n), add("f", "X")), files("f", whole[:n]+"X")...)
			for m := range n + 1 {
				checkFiles(t, with(d, cut("f", n), add("f", ""), cut("f", m), add("f", "YZ")), files("f", whole[:m]+"YZ")...)
			}
		}
	}
}

func TestRename(t *testing.T) {
	l := files("b", "1", "d", "2", "f", "3")
	for _, row := range []struct {
		from, to string
		want     []api.File
	}{
		{"b", "a", files("a", "1", "d", "2", "f", "3")}, // onto new names
		{"b", "c", files("c", "1", "d", "2", "f", "3")},
		{"b", "e", files("d", "2", "e", "1", "f", "3")},
		{"b", "z", files("d", "2", "f", "3", "z", "1")},
		{"d", "a", files("a", "2", "b", "1", "f", "3")},
		{"d", "dd", files("b", "1", "dd", "2", "f", "3")},
		{"d", "g", files("b", "1", "f", "3", "g", "2")},
		{"f", "a", files("a", "3", "b", "1", "d", "2")},
		{"f", "c", files("b", "1", "c", "3", "d", "2")},
		{"f", "g", files("b", "1", "d", "2", "g", "3")},
		{"b", "b", l}, {"d", "d", l}, {"f", "f", l}, // onto themselves
		{"b", "d", files("d", "1", "f", "3")}, // onto others
		{"b", "f", files("d", "2", "f", "1")},
		{"d", "b", files("b", "2", "f", "3")},
		{"d", "f", files("b", "1", "f", "2")},
		{"f", "b", files("b", "3", "d", "2")},
		{"f", "d", files("b", "1", "d", "3")},
	} {
		checkMay(t, l, call(row.from, row.to), row.want...)
	}
	checkMay(t, files("a", ""), call("a", "a"), files("a", "")...)
	checkMay(t, files("a", "x"), call("a", "b"), files("b", "x")...)
	for _, f := range many(8, "") {
		l := many(8, "x")
		l[3].Data = "y"
		want := slices.Clone(l)
		want[f.Name[0]-'a'].Data = "y"
		if f.Name != "d" {
			want = slices.Delete(want, 3, 4)
		}
		checkMay(t, l, call("d", f.Name), want...) // 8 files aren't too many: none is made
	}
	o := call("b", "a")
	o.Data = repeat("x", 1<<20+1) // no Data is asked for
	checkMay(t, l, o, files("a", "1", "d", "2", "f", "3")...)
}

func TestDrop(t *testing.T) {
	l := files("a", "1", "b", "2", "c", "3")
	checkMay(t, l, drop("a"), files("b", "2", "c", "3")...)
	checkMay(t, l, drop("b"), files("a", "1", "c", "3")...)
	checkMay(t, l, drop("c"), files("a", "1", "b", "2")...)
	checkMay(t, files("a", "1"), drop("a"))
	d := with(safe(l...), drop("b"))
	checkDo(t, d, drop("b"), d, api.ErrNone)
	checkDo(t, d, add("b", "4"), with(d, add("b", "4")), api.OK)
	checkFiles(t, with(d, add("b", "4")), files("a", "1", "b", "4", "c", "3")...)
}

func TestFilesThatAreTooLong(t *testing.T) {
	full := repeat("x", 1<<20)
	checkMay(t, nil, add("a", full), files("a", full)...)
	checkMay(t, files("a", ""), add("a", full), files("a", full)...)
	checkMay(t, files("a", full), add("a", ""), files("a", full)...)
	checkMay(t, files("a", full[1:]), add("a", "y"), files("a", full[1:]+"y")...)
	checkMay(t, files("a", "y"), add("a", full[1:]), files("a", "y"+full[1:])...)
	checkMay(t, files("a", full[:1<<19]), add("a", full[:1<<19]), files("a", full)...)
	checkMay(t, files("a", full), cut("a", 1<<20), files("a", full)...)
	for _, row := range []struct{ have, more string }{
		{"", full + "x"}, {full, "y"}, {"y", full}, {full[1:], "yz"}, {full[:1<<19], full[:1<<19+1]}, {full, full}, {"", full + full}, {full[:7], full[:1<<20-6]},
	} {
		checkMayNot(t, files("a", row.have), add("a", row.more), api.ErrLong)
		if row.have == "" {
			checkMayNot(t, nil, add("a", row.more), api.ErrLong)
		}
	}
	checkMayNot(t, files("a", full), cut("a", 1<<20+1), api.ErrArg)
	d := with(safe(files("a", full)...), cut("a", 1<<20-1))
	checkDo(t, d, add("a", "y"), with(d, add("a", "y")), api.OK)
	checkDo(t, d, add("a", "yz"), d, api.ErrLong)
	o := drop("a")
	o.Data = full + "x" // no Data is asked for
	checkMay(t, files("a", ""), o)
	o = cut("a", 1)
	o.Data = full + "x"
	checkMay(t, files("a", "12"), o, files("a", "1")...)
}

// Several errors at once: the chapter's order.
func TestTheOrderOfErrors(t *testing.T) {
	l := many(8, "xyz")
	tooMuch := repeat("x", 1<<20+1)
	for _, row := range []struct {
		o    api.Op
		code api.Code
	}{
		{api.Op{Kind: 9, Name: "z", To: "Z", Data: tooMuch, Size: -1}, api.ErrArg},
		{api.Op{Kind: 2, Name: "Z", To: "Z", Data: tooMuch, Size: -1}, api.ErrArg},
		{api.Op{Kind: 3, Name: "z", To: "Z", Data: tooMuch, Size: -1}, api.ErrArg},
		{api.Op{Kind: 3, Name: "z", To: "a", Data: tooMuch, Size: -1}, api.ErrNone},
		{api.Op{Kind: 2, Name: "z", To: "Z", Data: tooMuch, Size: -1}, api.ErrNone},
		{api.Op{Kind: 4, Name: "z", To: "Z", Data: tooMuch, Size: 99}, api.ErrNone},
		{api.Op{Kind: 2, Name: "a", To: "Z", Data: tooMuch, Size: -1}, api.ErrArg},
		{api.Op{Kind: 2, Name: "a", To: "Z", Data: tooMuch, Size: 4}, api.ErrArg},
		{api.Op{Kind: 1, Name: "Z", To: "Z", Data: tooMuch}, api.ErrArg},
		{api.Op{Kind: 1, Name: "z", To: "Z", Data: tooMuch}, api.ErrFull},
		{api.Op{Kind: 1, Name: "a", To: "Z", Data: tooMuch}, api.ErrLong},
	} {
		checkMayNot(t, l, row.o, row.code)
	}
}

// What is loose may be on the files behind what is ahead of it alone.
func TestOperationsBehindOthers(t *testing.T) {
	checkWhole(t, with(safe(), add("a", "12"), cut("a", 1), call("a", "b"), add("a", "3"), drop("b")), files("a", "3")...)
	checkWhole(t, with(safe(files("a", "1", "b", "2")...), call("a", "c"), call("b", "a"), call("c", "b")), files("a", "2", "b", "1")...) // exchanged
	checkWhole(t, with(safe(files("a", "1")...), add("a", "2"), call("a", "b"), add("a", "3"), call("b", "a"), add("a", "4")), files("a", "124")...)
	checkWhole(t, with(safe(many(8, "x")...), drop("d"), add("z", "1"), call("z", "a"), add("z", "2")), append(append(files("a", "1"), append(many(8, "x")[1:3], many(8, "x")[4:]...)...), files("z", "2")...)...)
	for _, row := range []struct {
		l   []api.File
		ops []api.Op
	}{
		{nil, []api.Op{cut("a", 0), add("a", "1")}},
		{nil, []api.Op{add("a", "1"), cut("a", 2), add("a", "2")}},
		{nil, []api.Op{add("a", "12"), cut("a", 1), cut("a", 2)}},
		{nil, []api.Op{add("a", "1"), drop("a"), drop("a")}},
		{nil, []api.Op{add("a", "1"), call("a", "b"), drop("a")}},
		{nil, []api.Op{add("a", "1"), call("a", "b"), call("a", "b")}},
		{files("b", "2"), []api.Op{drop("a"), add("a", "1")}},
		{files("a", "1"), []api.Op{{}}},
		{files("a", "1"), []api.Op{add("a", "2"), {}, add("a", "3")}},
		{files("a", "1"), []api.Op{add("a", "2"), add("A", "2"), add("a", "3")}},
		{files("a", "123", "b", ""), []api.Op{call("b", "a"), cut("a", 1)}},
		{many(7, ""), []api.Op{add("y", ""), add("z", ""), drop("y")}},
		{many(8, ""), []api.Op{add("z", ""), drop("a")}},
		{files("a", repeat("x", 1<<20)), []api.Op{add("a", "y"), cut("a", 0)}},
	} {
		checkWrong(t, with(safe(row.l...), row.ops...))
	}
}
