package disk_test

import (
	"slices"
	"strconv"
	"testing"
	"unsafe"

	"newsreel/api"
	"newsreel/disk"
	"newsreel/sample"
)

// roomy: a copy of d whose lists have spare room.
func roomy(d api.Disk) api.Disk {
	d.Files = sample.Roomy(d.Files, api.File{Name: "spare", Data: "room"})
	d.Loose = sample.Roomy(d.Loose, add("spare", "room"))
	return d
}

// all: d, its lists' spare room among them, in new memory.
func all(d api.Disk) api.Disk {
	d.Files, d.Loose = slices.Clone(d.Files[:cap(d.Files)]), slices.Clone(d.Loose[:cap(d.Loose)])
	return d
}

// spoil writes over the lists of d, their spare room too.
func spoil(d api.Disk) {
	files, loose := d.Files[:cap(d.Files)], d.Loose[:cap(d.Loose)]
	for i := range files {
		files[i] = api.File{Name: "spoilt", Data: "spoilt"}
	}
	for i := range loose {
		loose[i] = add("spoilt", "spoilt")
	}
}

// someDisks: disks that may be and some that may not, up and down, with a fuse and without one.
func someDisks() []api.Disk {
	var l []api.Disk
	for _, d := range []api.Disk{
		safe(), safe(files("a", "1")...), made(files("a", "xyz", "b", "")...), safe(many(8, "x")...), made(many(8, "y")...),
		with(safe(files("a", "123", "b", "45")...), add("a", "67"), call("b", "c"), cut("a", 2), add("d", "89"), drop("c"), add("d", "!")),
		with(safe(files("a", "1")...), slices.Repeat([]api.Op{add("a", "2")}, 4096)...),
		safe(files("b", "", "a", "")...), with(safe(), drop("a")), with(safe(files("a", "1")...), add("a", "2"), cut("a", 7)),
	} {
		l = append(l, d, fused(d, 0), fused(d, 1), down(d))
	}
	return l
}

// answer is what a call tells.
type answer struct {
	d     api.Disk
	files []api.File
	text  string
	code  api.Code
}

// calls: each call, and the same one the other way.
func calls() map[string][2]func(api.Disk) answer {
	l := map[string][2]func(api.Disk) answer{}
	put := func(what string, call, plain func(api.Disk) answer) {
		l[what] = [2]func(api.Disk) answer{call, plain}
	}
	told := func(d api.Disk, code api.Code) answer { return answer{d: d, code: code} }
	put("Files", func(d api.Disk) answer { return answer{files: disk.Files(d)} }, func(d api.Disk) answer { return answer{files: plainFiles(d)} })
	put("Sync", func(d api.Disk) answer { return told(disk.Sync(d)) }, func(d api.Disk) answer { return told(plainSync(d)) })
	for _, name := range []string{"a", "d", "nope"} {
		put("Get of "+name, func(d api.Disk) answer { s, code := disk.Get(d, name); return answer{text: s, code: code} }, func(d api.Disk) answer { s, code := plainGet(d, name); return answer{text: s, code: code} })
	}
	for i, o := range []api.Op{add("a", "more"), add("a", ""), add("new", "x"), cut("a", 0), call("a", "b"), drop("a"), drop("nope"), add("A", ""), {}} {
		put("Do "+strconv.Itoa(i), func(d api.Disk) answer { return told(disk.Do(d, o)) }, func(d api.Disk) answer { return told(plainDo(d, o)) })
	}
	for i, c := range []api.Crash{{}, {Keep: 1}, {Keep: 5}, {Keep: 1, Bytes: 1}, {Bytes: 2}, {Keep: 9, Burst: true, At: 5, Bits: 0x80000001}, {Keep: 3, Bytes: 1, Burst: true, Bits: 1}} {
		put("Fall "+strconv.Itoa(i), func(d api.Disk) answer { return told(disk.Fall(d, c, i)) }, func(d api.Disk) answer { return told(plainFall(d, c, i)) })
	}
	return l
}

func sameAnswer(a, b answer) bool {
	return same(a.d, b.d) && slices.Equal(a.files, b.files) && a.text == b.text && a.code == b.code
}

// What was given is written over behind the call: no answer turns with it, and the call has changed nothing, spare room neither.
func TestAnswersShareNoLists(t *testing.T) {
	for what, call := range calls() {
		for _, d := range someDisks() {
			want := call[1](d)
			given := roomy(d)
			before := all(given)
			got := call[0](given)
			if !same(before, all(given)) {
				t.Errorf("%s of %+v changed it: %+v", what, few(d), few(all(given)))
			}
			again := call[0](given)
			spoil(given)
			if !sameAnswer(got, want) {
				t.Errorf("%s of %+v, spoilt: %+v, %v, %q, %v", what, few(d), few(got.d), fewFiles(got.files), begin(got.text), got.code)
			}
			spoil(got.d)
			spoil(api.Disk{Files: got.files})
			if !sameAnswer(again, want) {
				t.Errorf("%s of %+v turns with another answer: %+v, %v", what, few(d), few(again.d), fewFiles(again.files))
			}
		}
	}
}

// A disk may be the beginning of many: what is done on one isn't on the others.
func TestDisksAreValues(t *testing.T) {
	base, _ := disk.Do(safe(files("a", "1")...), add("b", "2"))
	base.Loose = slices.Grow(base.Loose, 10)
	var l []api.Disk
	for _, s := range sample.Numbered(20) {
		d, code := disk.Do(base, add("c", s))
		if code != api.OK {
			t.Fatalf("Do: %v", code)
		}
		d, _ = disk.Do(d, add("c", s))
		l = append(l, d)
	}
	for i, s := range sample.Numbered(20) {
		checkFiles(t, l[i], files("a", "1", "b", "2", "c", s+s)...)
	}
	checkFiles(t, base, files("a", "1", "b", "2")...)
}

// given: texts in memory that may be changed behind a call.
type given struct{ memory [][]byte }

func (g *given) text(s string) string {
	b := []byte(s + "spare")
	g.memory = append(g.memory, b)
	return unsafe.String(&b[0], len(s))
}

func (g *given) op(o api.Op) api.Op {
	o.Name, o.To, o.Data = g.text(o.Name), g.text(o.To), g.text(o.Data)
	return o
}

func (g *given) disk(d api.Disk) api.Disk {
	var next api.Disk
	for _, f := range d.Files {
		next.Files = append(next.Files, api.File{Name: g.text(f.Name), Data: g.text(f.Data)})
	}
	for _, o := range d.Loose {
		next.Loose = append(next.Loose, g.op(o))
	}
	next.Fuse, next.Down = d.Fuse, d.Down
	return next
}

func (g *given) turn() {
	for _, b := range g.memory {
		for i := range b {
			b[i] ^= 0x55
		}
	}
}

// Texts that are put together, and those of an operation, are new memory.
func TestAnswersShareNoTexts(t *testing.T) {
	for what, call := range calls() {
		for _, d := range someDisks() {
			if what[0] == 'D' || !plainRight(d) || d.Down || d.Fuse == 0 { // a disk that is left as it was has its texts as they were
				continue
			}
			var g given
			got := call[0](g.disk(d))
			g.turn()
			if want := call[1](d); !sameAnswer(got, want) {
				t.Errorf("%s of %+v, turned: %+v, %v, %q, %v", what, few(d), few(got.d), fewFiles(got.files), begin(got.text), got.code)
			}
		}
	}
	base := safe(files("a", "123", "b", "45")...)
	for _, o := range []api.Op{add("a", "67"), add("c", "89"), add("c", ""), call("a", "c"), cut("b", 1), {Kind: 4, Name: "a", To: "To", Data: "data", Size: 9}} {
		var g given
		got, code := disk.Do(base, g.op(o))
		g.turn()
		checkDisk(t, "Do, turned", got, code, with(base, o), api.OK)
	}
}

func TestNothingIsKept(t *testing.T) {
	d := with(safe(files("a", "12")...), add("b", "\x00"))
	for i, m := range sample.Mixed(300) {
		disk.Name(sample.Bytes(m, 20))
		x := mixedDisk(m)
		disk.Right(x)
		disk.Files(x)
		disk.Do(x, mixedOp(m>>3))
		disk.Sync(x)
		disk.Get(x, "a")
		disk.Fall(x, mixedCrash(m>>5), i)
		checkName(t, "log", true)
		checkName(t, "Log", false)
		checkFiles(t, d, files("a", "12", "b", "\x00")...)
		checkDo(t, d, drop("a"), with(d, drop("a")), api.OK)
		checkDo(t, d, drop("c"), d, api.ErrNone)
		checkSync(t, d, safe(files("a", "12", "b", "\x00")...), api.OK)
		checkGet(t, d, "b", "\x00", api.OK)
		checkFall(t, d, api.Crash{Bytes: 1, Burst: true, Bits: 1}, 2, fused(safe(files("a", "12", "b", "\x01")...), 2), api.OK)
	}
}
