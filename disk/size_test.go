package disk_test

import (
	"slices"
	"strings"
	"testing"

	"newsreel/api"
	"newsreel/crc"
	"newsreel/disk"
)

const (
	most  = 1 << 20 // bytes of a file
	loose = 4096    // operations
)

// text: n bytes, any two side by side unlike.
func text(n int) string {
	b := make([]byte, n)
	for i := range b {
		b[i] = byte(i % 251)
	}
	return string(b)
}

// row: operations, as often as there may be.
func row(ops ...api.Op) []api.Op {
	return slices.Repeat(ops, loose/len(ops))
}

// great: a disk of 8 files of 2^20 bytes, and 4096 operations, and the files behind them.
type great struct {
	what string
	d    api.Disk
	want []api.File
}

func greatDisks() []great {
	whole := text(most)
	full := many(8, whole)
	short := many(8, whole[:most-512])
	var each []api.Op // 512 bytes to each of eight files, by turns
	for i := range loose {
		each = append(each, add(string(rune('a'+i%8)), whole[most-512+i/8:most-512+i/8+1]))
	}
	var ring []api.Op // eight files go round, each called as the next one was
	for range loose / 8 {
		ring = append(ring, drop("h"))
		for c := 'g'; c >= 'a'; c-- {
			ring = append(ring, call(string(c), string(c+1)))
		}
	}
	ring = ring[:8]
	for range loose/8 - 1 {
		ring = append(ring, call("b", "z"), call("z", "b"), cut("c", most), add("d", ""), call("e", "e"), call("h", "q"), call("q", "h"), cut("g", most))
	}
	var less []api.Op // byte by byte
	for n := range loose {
		less = append(less, cut("b", most-1-n))
	}
	changed := slices.Clone(full)
	changed[1].Data = whole[:most-loose]
	round := many(9, whole)[1:] // b to i
	round = round[:7]
	return []great{
		{"appended to by turns", with(safe(short...), each...), full},
		{"cut to nothing and filled again", with(safe(full...), row(cut("c", 0), add("c", whole))...), full},
		{"called by other names", with(safe(full...), ring...), round},
		{"cut byte by byte", with(safe(full...), less...), changed},
		{"dropped and made again", with(safe(full...), row(drop("h"), add("h", whole))...), full},
		{"appended to and cut", with(safe(many(8, whole[1:])...), row(add("a", "x"), cut("a", most-1))...), many(8, whole[1:])},
	}
}

func TestGreatDisks(t *testing.T) {
	for _, x := range greatDisks() {
		if len(x.d.Loose) != loose {
			t.Errorf("%s: %d operations", x.what, len(x.d.Loose))
		}
		if !disk.Right(x.d) {
			t.Errorf("%s: may not be", x.what)
		}
		if got := disk.Files(x.d); !slices.Equal(got, x.want) {
			t.Errorf("%s: %v", x.what, fewFiles(got))
		}
		got, code := disk.Sync(x.d)
		checkDisk(t, x.what+", synced", got, code, safe(x.want...), api.OK)
		got, code = disk.Do(got, drop("b"))
		checkDisk(t, x.what+", synced, one more", got, code, with(safe(x.want...), drop("b")), api.OK)
		got, code = disk.Do(x.d, drop("b"))
		checkDisk(t, x.what+", one more", got, code, x.d, api.ErrFull)
		got, code = disk.Fall(x.d, api.Crash{Keep: loose}, 3)
		checkDisk(t, x.what+", all kept", got, code, fused(safe(x.want...), 3), api.OK)
		got, code = disk.Fall(x.d, api.Crash{}, 3)
		checkDisk(t, x.what+", nothing kept", got, code, fused(safe(x.d.Files...), 3), api.OK)
		if s, code := disk.Get(x.d, "b"); s != x.want[slices.IndexFunc(x.want, func(f api.File) bool { return f.Name == "b" })].Data || code != api.OK {
			t.Errorf("%s: b has %d bytes, %v", x.what, len(s), code)
		}
		x.d.Loose[loose-1] = drop("nope")
		if disk.Right(x.d) {
			t.Errorf("%s, the last one wrong: may be", x.what)
		}
	}
}

// A burst in the Data of 2048 operations of 2^20 bytes each, of which the last one alone is seen.
func TestBurstsInGreatDisks(t *testing.T) {
	whole := text(most)
	d := with(safe(many(8, whole)...), row(cut("c", 0), add("c", whole))...)
	const bits = 8 * most
	for _, at := range []int{0, 1, 7, bits - 33, bits - 31, bits - 1} {
		for _, by := range []uint32{1, 1 << 31, 0x80000001, 1<<32 - 1} {
			want := many(8, whole)
			want[2].Data = crc.Burst(whole, at, by)
			checkGreatFall(t, d, api.Crash{Keep: loose, Burst: true, At: 2047*bits + at, Bits: by}, want)
			checkGreatFall(t, d, api.Crash{Keep: loose, Burst: true, At: 5*2048*bits + 2047*bits + at, Bits: by}, want)
		}
	}
	want := many(8, whole)
	want[2].Data = crc.Burst(whole, 0, 0x0fffffff)
	checkGreatFall(t, d, api.Crash{Keep: loose, Burst: true, At: 2047*bits - 4, Bits: 1<<32 - 1}, want) // from the one ahead into the last one
	checkGreatFall(t, d, api.Crash{Keep: loose, Burst: true, At: 1000 * bits, Bits: 1<<32 - 1}, many(8, whole))
	want[2].Data = whole[:most-1]
	checkGreatFall(t, d, api.Crash{Keep: 999, Bytes: most - 1, Burst: true, At: 100 * bits, Bits: 1<<32 - 1}, want)
	want[2].Data = crc.Burst(whole[:most-1], bits-9, 1)
	checkGreatFall(t, d, api.Crash{Keep: 999, Bytes: most - 1, Burst: true, At: 500*bits - 9, Bits: 1}, want)
}

func checkGreatFall(t *testing.T, d api.Disk, c api.Crash, want []api.File) {
	t.Helper()
	got, code := disk.Fall(d, c, 1)
	if code != api.OK || !same(got, fused(safe(want...), 1)) {
		t.Errorf("Fall by %+v: %v, %v", c, few(got), code)
	}
}

// TestTimeGrowsAsTheDisk: so many steps that they would not come to their end within a test, if each one copied the files for each operation that is loose.
func TestTimeGrowsAsTheDisk(t *testing.T) {
	whole := text(most)
	d := safe(many(8, whole[:most-loose])...)
	for i := range loose {
		var code api.Code
		if d, code = disk.Do(d, add("d", whole[most-loose+i:most-loose+i+1])); code != api.OK {
			t.Fatalf("step %d: %v", i, code)
		}
	}
	want := many(8, whole[:most-loose])
	want[3].Data = whole
	d, code := disk.Sync(d)
	checkDisk(t, "Sync", d, code, safe(want...), api.OK)
	ops := row(cut("d", 0), add("d", whole))
	d = with(safe(many(8, whole)...), ops[:loose-20]...)
	for i, o := range ops[loose-20:] {
		if d, code = disk.Do(d, o); code != api.OK {
			t.Fatalf("step %d: %v", i, code)
		}
	}
	checkGreatFall(t, d, api.Crash{Keep: loose}, many(8, whole))
}

// Names and lists that are many times as long as there may be.
func TestFarTooMuch(t *testing.T) {
	long := strings.Repeat("a", 1<<24)
	if disk.Name(long) {
		t.Error("a name of 2^24 letters")
	}
	for _, d := range []api.Disk{
		safe(files(long, "")...), safe(files("a", long)...), safe(make([]api.File, 1<<20)...), with(safe(), make([]api.Op, 1<<20)...),
		with(safe(), add(long, "")), with(safe(), add("a", long)), with(safe(files("a", "")...), call("a", long)),
	} {
		if disk.Right(d) || len(disk.Files(d)) != 0 {
			t.Errorf("may be: %+v", few(d))
		}
		got, code := disk.Do(d, add("a", ""))
		checkDisk(t, "Do", got, code, d, api.ErrArg)
	}
	got, code := disk.Do(safe(), add("a", long))
	checkDisk(t, "Do", got, code, safe(), api.ErrLong)
	got, code = disk.Do(safe(), add(long, ""))
	checkDisk(t, "Do", got, code, safe(), api.ErrArg)
	if s, code := disk.Get(safe(), long); s != "" || code != api.ErrNone {
		t.Errorf("Get of 2^24 letters: %v", code)
	}
}
