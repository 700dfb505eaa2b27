package disk_test

import (
	"math"
	"slices"
	"testing"

	"newsreel/api"
	"newsreel/disk"
	"newsreel/sample"
)

// next: a number below n, and the mixed number that follows.
func next(m *uint64, n int) int {
	*m = *m*6364136223846793005 + 1442695040888963407
	return int(*m >> 33 % uint64(n))
}

// mixedName: mostly one of ten names, so that there is often one file more than there may be.
func mixedName(m *uint64) string {
	if next(m, 60) == 0 {
		return noNames()[next(m, len(noNames()))]
	}
	return string(rune('a' + next(m, 10)))
}

// mixedOp: an operation by a mixed number, mostly one that may be, if its file is there.
func mixedOp(m uint64) api.Op {
	kind := []int{1, 1, 1, 1, 2, 2, 3, 3, 4}[next(&m, 9)]
	if next(&m, 100) == 0 {
		kind = kinds()[next(&m, len(kinds()))]
	}
	o := api.Op{Kind: kind, Name: mixedName(&m), To: mixedName(&m), Data: sample.Bytes(m>>7, 6), Size: next(&m, 6)}
	if next(&m, 50) == 0 {
		o.Size = sample.Away(9)[next(&m, 18)]
	}
	return o
}

// mixedDisk: a disk by a mixed number, that mostly may be.
func mixedDisk(m uint64) api.Disk {
	var d api.Disk
	often := 2 + next(&m, 7)
	for _, f := range many(10, "") {
		if next(&m, 10) < often && (len(d.Files) < 8 || next(&m, 20) == 0) {
			f.Data = sample.Bytes(m, 9)
			d.Files = append(d.Files, f)
		}
	}
	for range next(&m, 12) {
		o := mixedOp(m)
		if longer := with(d, o); next(&m, 40) == 0 || plainRight(longer) {
			d = longer
		}
	}
	d.Fuse = next(&m, 8) - 2
	d.Down = next(&m, 8) == 0
	return d
}

// mixedCrash: a crash by a mixed number.
func mixedCrash(m uint64) api.Crash {
	c := api.Crash{Keep: next(&m, 12) - 1, Bytes: next(&m, 7) - 1, Burst: next(&m, 2) == 0, At: next(&m, 300), Bits: uint32(m >> 20)}
	if next(&m, 4) == 0 {
		c.At = int(m)
	}
	if next(&m, 20) == 0 {
		far := sample.Away(5)
		c.Keep, c.Bytes = far[next(&m, len(far))], far[next(&m, len(far))]
	}
	return c
}

// checkAsOther: each call tells of d what the other way tells.
func checkAsOther(t *testing.T, d api.Disk, o api.Op, c api.Crash, fuse int) {
	t.Helper()
	if want := plainRight(d); disk.Right(d) != want {
		t.Errorf("Right(%+v): not %v", few(d), want)
	}
	if got, want := disk.Files(d), plainFiles(d); !slices.Equal(got, want) {
		t.Errorf("Files(%+v): %v, not %v", few(d), fewFiles(got), fewFiles(want))
	}
	want, code := plainDo(d, o)
	checkDo(t, d, o, want, code)
	want, code = plainSync(d)
	checkSync(t, d, want, code)
	want, code = plainFall(d, c, fuse)
	checkFall(t, d, c, fuse, want, code)
	for _, name := range []string{o.Name, o.To, "a", "b"} {
		text, code := plainGet(d, name)
		checkGet(t, d, name, text, code)
	}
	if code := plainClosed(d); code != api.ErrArg {
		checkOutlives(t, d, c)
	}
}

func TestMixedDisks(t *testing.T) {
	told := map[api.Code]int{}
	for i, m := range sample.Mixed(20000) {
		d, o := mixedDisk(m>>3), mixedOp(m>>9)
		checkAsOther(t, d, o, mixedCrash(m>>5), i-10000)
		_, code := plainDo(d, o)
		told[code]++
	}
	for _, code := range []api.Code{api.OK, api.ErrArg, api.ErrNone, api.ErrFull, api.ErrDown} {
		if told[code] < 100 {
			t.Errorf("%v came %d times alone", code, told[code])
		}
	}
}

// Long rows of operations, syncs and crashes, each on what the one before has left.
func TestMixedRows(t *testing.T) {
	for i, m := range sample.Mixed(60) {
		d, other := fused(safe(), i-10), fused(safe(), i-10)
		for range 400 {
			var got, want api.Code
			switch n := next(&m, 40); {
			case n == 0 || d.Down:
				c, fuse := mixedCrash(m), next(&m, 100)-5
				d, got = disk.Fall(d, c, fuse)
				other, want = plainFall(other, c, fuse)
			case n < 5:
				d, got = disk.Sync(d)
				other, want = plainSync(other)
			default:
				o := mixedOp(m)
				d, got = disk.Do(d, o)
				other, want = plainDo(other, o)
			}
			checkDisk(t, "a step", d, got, other, want)
		}
	}
}

// All lists of up to three steps of these, on an empty disk and on one with files.
func TestShortRows(t *testing.T) {
	parts := []api.Op{add("a", "x"), add("a", "yz"), add("b", ""), cut("a", 0), cut("a", 1), cut("b", 2), call("a", "b"), call("b", "a"), call("a", "a"), drop("a"), drop("b"), {Kind: 5, Name: "a"}}
	for l := range sample.Lists(parts, 3) {
		for _, d := range []api.Disk{safe(), safe(files("a", "12", "b", "34")...), safe(many(8, "x")...)} {
			d.Loose = slices.Clone(l)
			checkAsOther(t, d, add("c", "!"), api.Crash{Keep: 1, Bytes: 1, Burst: true, At: 9, Bits: math.MaxUint32}, 1)
		}
	}
}

func FuzzDisk(f *testing.F) {
	for _, m := range sample.Mixed(50) {
		f.Add(m, m>>7, m>>9, "a", "b", "xyz", int(m>>60), int(m>>58), int(m), int(m>>40), uint32(m>>20))
	}
	f.Fuzz(func(t *testing.T, m, k, n uint64, name, to, data string, kind, size, keep, at int, by uint32) {
		checkName(t, name, names.MatchString(name))
		d := mixedDisk(m)
		o := api.Op{Kind: kind, Name: name, To: to, Data: data, Size: size}
		c := api.Crash{Keep: keep, Bytes: size, Burst: true, At: at, Bits: by}
		checkAsOther(t, d, o, c, at)
		checkAsOther(t, with(d, o, mixedOp(k)), mixedOp(n), c, size)
		checkAsOther(t, with(d, mixedOp(k), o), o, mixedCrash(n), keep)
		d.Files = append(slices.Clone(d.Files), api.File{Name: name, Data: data})
		checkAsOther(t, d, o, c, at)
	})
}
