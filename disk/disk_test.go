package disk_test

import (
	"math"
	"slices"
	"strconv"
	"strings"
	"testing"

	"newsreel/api"
	"newsreel/disk"
	"newsreel/sample"
)

var repeat = strings.Repeat

func add(name, data string) api.Op     { return api.Op{Kind: 1, Name: name, Data: data} }
func cut(name string, size int) api.Op { return api.Op{Kind: 2, Name: name, Size: size} }
func call(name, to string) api.Op      { return api.Op{Kind: 3, Name: name, To: to} }
func drop(name string) api.Op          { return api.Op{Kind: 4, Name: name} }

// files: names and their bytes, by turns.
func files(l ...string) []api.File {
	var f []api.File
	for i := 0; i < len(l); i += 2 {
		f = append(f, api.File{Name: l[i], Data: l[i+1]})
	}
	return f
}

// many: n files of one letter each, from a on, of these bytes.
func many(n int, data string) []api.File {
	var f []api.File
	for i := range n {
		f = append(f, api.File{Name: string(rune('a' + i)), Data: data})
	}
	return f
}

// safe: a disk of files alone, which does any number of steps.
func safe(f ...api.File) api.Disk { return api.Disk{Files: f, Fuse: -1} }

// made: a disk whose files are all loose.
func made(f ...api.File) api.Disk {
	d := safe()
	for _, x := range f {
		d.Loose = append(d.Loose, add(x.Name, x.Data))
	}
	return d
}

// with: d, and more loose operations.
func with(d api.Disk, ops ...api.Op) api.Disk {
	d.Loose = slices.Concat(d.Loose, ops)
	return d
}

// fused: d, with that fuse.
func fused(d api.Disk, n int) api.Disk {
	d.Fuse = n
	return d
}

// down: d, down.
func down(d api.Disk) api.Disk {
	d.Down = true
	return d
}

// fuses: how many steps disks may do still, the ends of the type among them.
func fuses() []int {
	return []int{math.MinInt, math.MinInt + 1, -1 << 32, -2, -1, 0, 1, 2, 3, 1<<32 - 1, 1 << 32, math.MaxInt - 1, math.MaxInt}
}

// kinds: numbers that are no operation's kind, some whose low bits alone would be one.
func kinds() []int { return append(sample.Away(5), 0, -3, -4, 6, 1<<8+1, 1<<16+2, 1<<32+3) }

// noNames: texts that are no file's name.
func noNames() []string {
	return []string{"", "A", "Z", "0", "9", "`", "{", " ", "_", "-", ".", "/", "\x00", "\x7f", "\xff", "\xe1", "\u00e4", "\u0430", "a\x00", "\x00a", "a ", " a", "a\n", "aB", "Ab", "log1", "a.b", "a/b", "../a",
		"abc\xffdef", "caf\u00e9", repeat("a", 17), repeat("z", 18), repeat("a", 32), repeat("a", 256+1), repeat("a", 15) + "A", repeat("a", 15) + "\u00e4", "A" + repeat("a", 15)}
}

// same: whether a and b are alike; no list is like an empty one.
func same(a, b api.Disk) bool {
	return slices.Equal(a.Files, b.Files) && slices.Equal(a.Loose, b.Loose) && a.Fuse == b.Fuse && a.Down == b.Down
}

// few: the begins of what d has, so that what a test tells isn't too long.
func few(d api.Disk) api.Disk {
	d.Files, d.Loose = fewFiles(d.Files), slices.Clone(d.Loose[:min(len(d.Loose), 10)])
	for i, o := range d.Loose {
		d.Loose[i] = fewOf(o)
	}
	return d
}

func fewFiles(l []api.File) []api.File {
	l = slices.Clone(l[:min(len(l), 10)])
	for i := range l {
		l[i].Name, l[i].Data = begin(l[i].Name), begin(l[i].Data)
	}
	return l
}

func fewOf(o api.Op) api.Op {
	o.Name, o.To, o.Data = begin(o.Name), begin(o.To), begin(o.Data)
	return o
}

func begin(s string) string {
	if len(s) < 30 {
		return strconv.Quote(s)
	}
	return strconv.Quote(s[:20]) + " and more: " + strconv.Itoa(len(s))
}

// checkDisk: a call left want, and told that code.
func checkDisk(t *testing.T, what string, got api.Disk, told api.Code, want api.Disk, code api.Code) {
	t.Helper()
	if !same(got, want) || told != code {
		t.Errorf("%s: %+v, %v, not %+v, %v", what, few(got), told, few(want), code)
	}
}

func checkDo(t *testing.T, d api.Disk, o api.Op, want api.Disk, code api.Code) {
	t.Helper()
	other, told := plainDo(d, o)
	checkDisk(t, "the other way Do", other, told, want, code)
	got, told := disk.Do(d, o)
	checkDisk(t, "Do", got, told, want, code)
}

func checkSync(t *testing.T, d api.Disk, want api.Disk, code api.Code) {
	t.Helper()
	other, told := plainSync(d)
	checkDisk(t, "the other way Sync", other, told, want, code)
	got, told := disk.Sync(d)
	checkDisk(t, "Sync", got, told, want, code)
}

func checkFall(t *testing.T, d api.Disk, c api.Crash, fuse int, want api.Disk, code api.Code) {
	t.Helper()
	other, told := plainFall(d, c, fuse)
	checkDisk(t, "the other way Fall", other, told, want, code)
	got, told := disk.Fall(d, c, fuse)
	checkDisk(t, "Fall", got, told, want, code)
}

func checkGet(t *testing.T, d api.Disk, name, want string, code api.Code) {
	t.Helper()
	if other, told := plainGet(d, name); other != want || told != code {
		t.Errorf("the other way Get(%+v, %.40q): %.40q, %v, not %.40q, %v", few(d), name, other, told, want, code)
	}
	if got, told := disk.Get(d, name); got != want || told != code {
		t.Errorf("Get(%+v, %.40q): %.40q, %v, not %.40q, %v", few(d), name, got, told, want, code)
	}
}

// checkFiles: d may be, and its files are just these.
func checkFiles(t *testing.T, d api.Disk, want ...api.File) {
	t.Helper()
	if !plainRight(d) || !slices.Equal(plainFiles(d), want) {
		t.Errorf("the other way of %+v: %v, %v, not %v", few(d), plainRight(d), fewFiles(plainFiles(d)), fewFiles(want))
	}
	if !disk.Right(d) {
		t.Errorf("Right(%+v): false", few(d))
	}
	if got := disk.Files(d); !slices.Equal(got, want) {
		t.Errorf("Files(%+v): %v, not %v", few(d), fewFiles(got), fewFiles(want))
	}
}

// checkWhole: d may be, and has these files, whichever call is asked, up or down.
func checkWhole(t *testing.T, d api.Disk, want ...api.File) {
	t.Helper()
	for _, n := range fuses() {
		d := fused(d, n)
		for _, d := range []api.Disk{d, down(d)} {
			checkFiles(t, d, want...)
			checkFall(t, d, api.Crash{Keep: len(d.Loose)}, n, fused(safe(want...), n), api.OK)
		}
		checkSync(t, down(d), down(d), api.ErrDown)
	}
	checkSync(t, fused(d, -1), safe(want...), api.OK)
	for _, f := range want {
		checkGet(t, d, f.Name, f.Data, api.OK)
		checkGet(t, down(d), f.Name, "", api.ErrDown)
	}
}

// checkWrong: d may not be, whatever its fuse is, up or down; no call does anything.
func checkWrong(t *testing.T, d api.Disk) {
	t.Helper()
	for _, n := range fuses() {
		d := fused(d, n)
		for _, d := range []api.Disk{d, down(d)} {
			if plainRight(d) || disk.Right(d) {
				t.Errorf("Right(%+v): %v, the other way %v", few(d), disk.Right(d), plainRight(d))
			}
			if got := disk.Files(d); len(got) != 0 {
				t.Errorf("Files(%+v): %v", few(d), fewFiles(got))
			}
			checkSync(t, d, d, api.ErrArg)
			checkGet(t, d, "a", "", api.ErrArg)
			checkGet(t, d, "nope", "", api.ErrArg)
			checkGet(t, d, "A", "", api.ErrArg)
			for _, o := range []api.Op{add("a", "x"), add("A", "x"), drop("a"), drop("nope"), {}} {
				checkDo(t, d, o, d, api.ErrArg)
			}
			for _, c := range []api.Crash{{}, {Keep: 1, Bytes: 1}, {Keep: 5000, Bytes: 5000, Burst: true, Bits: 1}} {
				checkFall(t, d, c, n, d, api.ErrArg)
				checkFall(t, d, c, 7, d, api.ErrArg)
			}
		}
	}
}

func TestTheChaptersExample(t *testing.T) {
	d, code := disk.Do(safe(), add("a", "xyz"))
	checkDisk(t, "Do", d, code, with(safe(), add("a", "xyz")), api.OK)
	checkFall(t, d, api.Crash{Bytes: 2}, -1, safe(files("a", "xy")...), api.OK)
}

func checkName(t *testing.T, s string, want bool) {
	t.Helper()
	if other := names.MatchString(s); other != want {
		t.Errorf("the other way %.40q is a name: %v, not %v", s, other, want)
	}
	if got := disk.Name(s); got != want {
		t.Errorf("Name(%.40q): %v, not %v", s, got, want)
	}
}

func TestName(t *testing.T) {
	for _, s := range []string{"a", "z", "m", "az", "log", "snap", "temp", "aa", "abcdefghijklmnop", "klmnopqrstuvwxyz", repeat("a", 16), repeat("z", 16), repeat("q", 15)} {
		checkName(t, s, true)
	}
	for _, s := range noNames() {
		checkName(t, s, false)
	}
	for n := range 600 {
		checkName(t, repeat("k", n), n >= 1 && n <= 16)
	}
	checkName(t, repeat("a", 1<<24), false)
}

// Each byte at each place of a name.
func TestEachByteOfAName(t *testing.T) {
	for n := range 18 {
		for at := range n {
			for c := range 256 {
				s := repeat("n", at) + string([]byte{byte(c)}) + repeat("n", n-at-1)
				checkName(t, s, n <= 16 && strings.Contains("abcdefghijklmnopqrstuvwxyz", s[at:at+1]))
			}
		}
	}
	for r := rune(128); r < 0x3000; r++ {
		checkName(t, string(r), false)
	}
}

func TestRightDisks(t *testing.T) {
	checkWhole(t, safe())
	checkWhole(t, api.Disk{Files: []api.File{}, Loose: []api.Op{}}) // lists of nothing
	for n := range 9 {
		for _, data := range []string{"", "x", "\x00\xff", repeat("y", 1000), repeat("z", 1<<20)} {
			checkWhole(t, safe(many(n, data)...), many(n, data)...)
		}
	}
	long := repeat("a", 16)
	for _, l := range [][]api.File{
		files("a", "1", "b", "2"), files("a", "", "aa", "", "ab", "", "b", ""), files(long, "x"), files(long[:15], "", long, "", long[:15]+"b", ""),
		files("log", "l", "snap", "s", "temp", "t"), files("z", "a", "zz", "a"),
	} {
		checkWhole(t, safe(l...), l...)
		checkWhole(t, made(l...), l...)
	}
}

func TestDisksThatMayNotBe(t *testing.T) {
	for _, l := range [][]api.File{
		files("b", "", "a", ""), files("a", "", "c", "", "b", ""), files("aa", "", "a", ""), files("b", "", "a", "", "c", ""), files("z", "1", "y", "2", "x", "3"), // out of order
		files("a", "", "a", ""), files("a", "x", "a", "y"), files("a", "", "b", "", "b", ""), files("a", "", "b", "", "a", ""), files("a", "", "a", "", "b", ""), // twice
		many(9, ""), many(10, "x"), many(26, ""), // too many
		files("a", repeat("x", 1<<20+1)), files("a", "", "b", repeat("x", 1<<20+1)), files("a", repeat("x", 1<<20+1), "b", ""), files("a", repeat("\x00", 1<<21)), // too long
	} {
		checkWrong(t, safe(l...))
		checkWrong(t, with(safe(l...), drop("a")))
		checkWrong(t, with(safe(l...), cut("b", 0), drop("b")))
	}
	for _, s := range noNames() {
		checkWrong(t, safe(files(s, "x")...))
		checkWrong(t, with(safe(files(s, "x")...), add("a", "x")))
		l := slices.SortedFunc(slices.Values(files(s, "x", "m", "y")), func(a, b api.File) int { return strings.Compare(a.Name, b.Name) })
		checkWrong(t, safe(l...))
	}
}

// How many operations may be loose: 4096, and one more isn't done, nor may it be.
func TestHowManyMayBeLoose(t *testing.T) {
	for _, n := range []int{0, 1, 4095, 4096} {
		ops := slices.Repeat([]api.Op{add("a", "x")}, n)
		for _, l := range [][]api.File{nil, files("a", "1", "b", "2")} {
			d := with(safe(l...), ops...)
			var want []api.File
			switch {
			case len(l) != 0:
				want = files("a", "1"+repeat("x", n), "b", "2")
			case n > 0:
				want = files("a", repeat("x", n))
			}
			checkFiles(t, d, want...)
			checkSync(t, d, safe(want...), api.OK)
			checkFall(t, d, api.Crash{Keep: n}, 5, fused(safe(want...), 5), api.OK)
			for _, o := range []api.Op{add("a", "y"), add("c", "")} {
				if n == 4096 {
					checkDo(t, d, o, d, api.ErrFull)
					checkDo(t, fused(d, 0), o, fused(d, 0), api.ErrFull) // ahead of the fuse
					checkDo(t, fused(d, 1), o, fused(d, 1), api.ErrFull)
					checkDo(t, down(d), o, down(d), api.ErrDown)
				} else {
					checkDo(t, d, o, with(d, o), api.OK)
				}
			}
			checkDo(t, d, drop("nope"), d, api.ErrNone) // ahead of too many
			checkDo(t, d, drop("Nope"), d, api.ErrArg)
			checkDo(t, d, add("a", repeat("x", 1<<20+1)), d, api.ErrLong)
		}
	}
	for _, n := range []int{4097, 4098, 8192} {
		checkWrong(t, with(safe(), slices.Repeat([]api.Op{add("a", "x")}, n)...))
	}
}

// The fuse: how many steps are done still.
func TestFuse(t *testing.T) {
	base := with(safe(files("a", "1")...), add("b", "2"))
	o := add("a", "3")
	for _, n := range fuses() {
		d := fused(base, n)
		next := n
		if n > 0 {
			next = n - 1
		}
		if n == 0 {
			checkDo(t, d, o, down(d), api.ErrDown)
			checkSync(t, d, down(d), api.ErrDown)
		} else {
			checkDo(t, d, o, fused(with(base, o), next), api.OK)
			checkSync(t, d, fused(safe(files("a", "1", "b", "2")...), next), api.OK)
		}
		checkDo(t, down(d), o, down(d), api.ErrDown)
		checkSync(t, down(d), down(d), api.ErrDown)
		checkGet(t, d, "b", "2", api.OK) // asking takes nothing of it
		checkDo(t, d, drop("c"), d, api.ErrNone)
		checkDo(t, down(d), drop("c"), down(d), api.ErrDown) // ahead of the operation's own
		checkDo(t, down(d), drop("C"), down(d), api.ErrDown)
	}
}

// A fuse of n: n steps are done, the next one isn't, and none behind it.
func TestFusesBurnDown(t *testing.T) {
	for n := range 6 {
		d := fused(safe(), n)
		for i := range 10 {
			var code api.Code
			if i%2 == 0 {
				d, code = disk.Do(d, add("a", "x"))
			} else {
				d, code = disk.Sync(d)
			}
			if (code == api.OK) != (i < n) || i >= n && code != api.ErrDown || d.Down != (i >= n) || d.Fuse != max(n-i-1, 0) {
				t.Errorf("a fuse of %d, step %d: %+v, %v", n, i, d, code)
			}
		}
		checkFiles(t, d, many(min(n, 1), repeat("x", (n+1)/2))...)
		if len(d.Loose) != n%2 {
			t.Errorf("a fuse of %d: %+v", n, d)
		}
	}
}

func TestSync(t *testing.T) {
	for _, l := range [][]api.File{nil, files("a", ""), files("a", "1", "b", "2"), many(8, "x")} {
		checkSync(t, safe(l...), safe(l...), api.OK)
		checkSync(t, made(l...), safe(l...), api.OK)
	}
	d := with(safe(files("a", "1", "b", "2")...), add("c", "3"), call("a", "z"), cut("b", 0), add("b", "4"))
	checkSync(t, d, safe(files("b", "4", "c", "3", "z", "1")...), api.OK)
	checkSync(t, with(safe(files("a", "1")...), drop("a")), safe(), api.OK)
}

func TestGet(t *testing.T) {
	d := with(safe(files("cut", "12345", "dropped", "1", "named", "2", "over", "3", "safe", "4", "turned", "5")...),
		add("made", "6"), add("turned", "7"), cut("cut", 2), call("named", "new"), drop("dropped"), add("brief", "8"), drop("brief"), call("turned", "over"), add("over", "9"))
	for _, row := range [][2]string{{"safe", "4"}, {"made", "6"}, {"cut", "12"}, {"new", "2"}, {"over", "579"}} {
		checkGet(t, d, row[0], row[1], api.OK)
		checkGet(t, fused(d, 0), row[0], row[1], api.OK)
		checkGet(t, down(d), row[0], "", api.ErrDown)
	}
	for _, name := range append(noNames(), "nope", "named", "dropped", "brief", "turned", "saf", "safes", "Safe", "safe\x00", repeat("a", 16)) {
		checkGet(t, d, name, "", api.ErrNone)
		checkGet(t, safe(), name, "", api.ErrNone)
		checkGet(t, down(d), name, "", api.ErrDown)
	}
	checkWhole(t, d, files("cut", "12", "made", "6", "new", "2", "over", "579", "safe", "4")...)
	checkGet(t, made(files("a", "")...), "a", "", api.OK)
	checkGet(t, safe(files("a", "")...), "a", "", api.OK)
}
