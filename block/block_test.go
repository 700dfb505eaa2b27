package block_test

import (
	"math"
	"slices"
	"strings"
	"testing"
	"unsafe"

	"newsreel/api"
	"newsreel/block"
	"newsreel/sample"
)

var repeat = strings.Repeat

// text: n bytes that aren't 0, any two side by side unlike.
func text(n int) string {
	b := make([]byte, n)
	for i := range b {
		b[i] = byte(1 + i%251)
	}
	return string(b)
}

// lengths: how many bytes records have where something changes.
func lengths() []int {
	return []int{0, 1, 2, 5, 52, 53, 54, 55, 56, 60, 64, 107, 108, 109, 110, 161, 162, 163, 216, 540, 541}
}

// contents: records of n bytes, each of other bytes.
func contents(n int) []string {
	return []string{text(n), repeat("\x00", n), repeat("\xff", n), repeat("\u20ac", n)[:n], repeat("\x01\x05\x00", n)[:n]}
}

// mixedTexts: n texts of fewer than most bytes, any ones.
func mixedTexts(n int, most uint64) []string {
	var l []string
	for _, m := range sample.Mixed(n) {
		l = append(l, sample.Bytes(m>>8, most))
	}
	return l
}

// numbers: first numbers that may be.
func numbers() []int {
	return []int{0, 1, 2, 255, 256, 257, 1<<16 - 1, 1 << 16, 1<<24 - 1, 1 << 24, 0x01020304, 1<<30 - 1, 1 << 30}
}

// noNumbers: first numbers that may not be, the ends of their type among them, and some whose low bits alone would be one.
func noNumbers() []int {
	return append(sample.Away(1<<30+1), -1<<30, -1<<30-1, -1<<62, 1<<30+1, 1<<30+2, 1<<30+1<<8, 3<<29, 1<<32-1, 1<<32+1<<30, 1<<62, 1<<62+1)
}

func checkCount(t *testing.T, n, want int) {
	t.Helper()
	if other := plainCount(n); other != want {
		t.Errorf("the other way the count of %d is %d, not %d", n, other, want)
	}
	if got := block.Count(n); got != want {
		t.Errorf("Count(%d): %d, not %d", n, got, want)
	}
}

// checkPack: the record s has just these blocks, the first one's number n.
func checkPack(t *testing.T, s string, n int, want ...string) {
	t.Helper()
	if other, code := plainPack(s, n); other != strings.Join(want, "") || code != api.OK {
		t.Errorf("the other way the blocks of %.100x from %d on are %.300x, %v", s, n, other, code)
	}
	if got, code := block.Pack(s, n); got != strings.Join(want, "") || code != api.OK {
		t.Errorf("Pack(%.100x, %d): %.300x, %v, not %.300x", s, n, got, code, want)
	}
	if block.Count(len(s)) != len(want) {
		t.Errorf("Count(%d): %d, not %d", len(s), block.Count(len(s)), len(want))
	}
}

// checkNoPack: the record s has no blocks from n on, for that reason.
func checkNoPack(t *testing.T, s string, n int, want api.Code) {
	t.Helper()
	if _, code := plainPack(s, n); code != want {
		t.Errorf("the other way %d bytes from %d on are %v, not %v", len(s), n, code, want)
	}
	if got, code := block.Pack(s, n); got != "" || code != want {
		t.Errorf("Pack of %d bytes, %d: %.100x, %v, not %v", len(s), n, got, code, want)
	}
}

// checkPacked: the record s has the blocks from n on that it has the other way, and where n is 0 it is read of them.
func checkPacked(t *testing.T, s string, n int) {
	t.Helper()
	want := plainBlocks(s, n)
	checkPack(t, s, n, want...)
	if n == 0 {
		checkScan(t, strings.Join(want, ""), 64*len(want), s)
	} else {
		checkScan(t, strings.Join(want, ""), 0)
	}
}

// file: the blocks of records, one behind the other, as Pack makes them.
func file(t *testing.T, l ...string) string {
	t.Helper()
	var b strings.Builder
	for _, s := range l {
		blocks, code := block.Pack(s, b.Len()/64)
		if code != api.OK {
			t.Fatalf("Pack of %d bytes, %d: %v", len(s), b.Len()/64, code)
		}
		b.WriteString(blocks)
	}
	return b.String()
}

func TestTheChaptersExamples(t *testing.T) {
	got, code := block.Pack("hello", 0)
	if len(got) != 64 || got[:2] != "\x01\x05" || code != api.OK {
		t.Errorf("Pack of hello: %x, %v", got, code)
	}
	checkCount(t, 55, 2)
}

func TestCount(t *testing.T) {
	for _, row := range [][2]int{
		{math.MinInt, 1}, {math.MinInt + 1, 1}, {-1 << 32, 1}, {-1<<32 + 55, 1}, {-1 << 31, 1}, {-109, 1}, {-108, 1}, {-55, 1}, {-54, 1}, {-53, 1}, {-2, 1}, {-1, 1},
		{0, 1}, {1, 1}, {2, 1}, {53, 1}, {54, 1}, {55, 2}, {56, 2}, {64, 2}, {107, 2}, {108, 2}, {109, 3}, {162, 3}, {163, 4},
		{54 * 4854, 4854}, {1<<18 - 1, 4855}, {1 << 18, 4855}, {1<<18 + 1, 4855}, {54 * 4855, 4855}, {54*4855 + 1, 4856},
		{1<<31 - 1, 39768216}, {1 << 31, 39768216}, {1 << 32, 79536432}, {54 << 32, 1 << 32}, {54<<32 + 1, 1<<32 + 1},
		{math.MaxInt - 26, 170803185867681033}, {math.MaxInt - 25, 170803185867681033}, {math.MaxInt - 24, 170803185867681034}, {math.MaxInt - 1, 170803185867681034}, {math.MaxInt, 170803185867681034},
	} {
		checkCount(t, row[0], row[1])
	}
}

func TestCountOfManyNumbers(t *testing.T) {
	for n := -200; n < 1<<18+200; n++ {
		checkCount(t, n, plainCount(n))
	}
	for n := range 200 {
		checkCount(t, math.MinInt+n, 1)
		checkCount(t, math.MaxInt-n, plainCount(math.MaxInt-n))
	}
	for _, m := range append(sample.Mixed(5000), sample.Edges()...) {
		checkCount(t, int(m), plainCount(int(m)))
		checkCount(t, int(m>>20), plainCount(int(m>>20)))
	}
}

// Where each byte of a block is, its sum written out.
func TestBlocksByteByByte(t *testing.T) {
	full := text(54)
	rest := "\x37\x38\x39\x3a\x3b\x3c\x3d\x3e\x3f\x40\x41\x42\x43\x44\x45\x46\x47\x48\x49\x4a\x4b\x4c\x4d\x4e\x4f\x50\x51\x52\x53\x54\x55\x56\x57\x58\x59\x5a\x5b\x5c\x5d\x5e\x5f\x60\x61\x62\x63\x64\x65\x66\x67\x68\x69\x6a\x6b\x6c"
	if full+rest != text(108) {
		t.Error("the bytes of a text")
	}
	checkPack(t, "", 0, "\x01\x00\x00\x00\x00\x00"+repeat("\x00", 54)+"\x87\x07\xc1\xce")
	checkPack(t, "hello", 0, "\x01\x05\x00\x00\x00\x00hello"+repeat("\x00", 49)+"\x80\x98\x3f\x28")
	checkPack(t, "hello", 0x01020304, "\x01\x05\x04\x03\x02\x01hello"+repeat("\x00", 49)+"\x9f\x42\x84\xe8")
	checkPack(t, full, 1<<30, "\x01\x36\x00\x00\x00\x40"+full+"\xc7\x2c\x22\x05")
	checkPack(t, full+rest[:1], 255, "\x02\x36\xff\x00\x00\x00"+full+"\xc8\xe6\xfd\xeb", "\x04\x01\x00\x01\x00\x00\x37"+repeat("\x00", 53)+"\x81\x99\xcf\xc2")
	checkPack(t, full+rest+"!", 7, "\x02\x36\x07\x00\x00\x00"+full+"\xe2\x78\xd2\x43", "\x03\x36\x08\x00\x00\x00"+rest+"\x0d\x05\x99\xc1", "\x04\x01\x09\x00\x00\x00!"+repeat("\x00", 53)+"\xf9\x5c\x8e\xb4")
}

// The parts of each block, one by one.
func TestBlocksOfARecord(t *testing.T) {
	for _, row := range []struct {
		size  int
		kinds string
		sizes string
	}{
		{0, "\x01", "\x00"},
		{1, "\x01", "\x01"},
		{53, "\x01", "\x35"},
		{54, "\x01", "\x36"},
		{55, "\x02\x04", "\x36\x01"},
		{107, "\x02\x04", "\x36\x35"},
		{108, "\x02\x04", "\x36\x36"},
		{109, "\x02\x03\x04", "\x36\x36\x01"},
		{162, "\x02\x03\x04", "\x36\x36\x36"},
		{163, "\x02\x03\x03\x04", "\x36\x36\x36\x01"},
		{540, "\x02" + repeat("\x03", 8) + "\x04", repeat("\x36", 10)},
		{1<<18 - 1, "\x02" + repeat("\x03", 4853) + "\x04", repeat("\x36", 4854) + "\x1b"},
		{1 << 18, "\x02" + repeat("\x03", 4853) + "\x04", repeat("\x36", 4854) + "\x1c"},
	} {
		s := text(row.size)
		for _, n := range numbers() {
			var want []string
			at := 0
			for i := range len(row.kinds) {
				to := at + int(row.sizes[i])
				want = append(want, plainBlock(row.kinds[i], row.sizes[i], uint32(n)+uint32(i), s[at:to]))
				at = to
			}
			checkPack(t, s, n, want...)
		}
	}
}

func TestPack(t *testing.T) {
	for _, n := range lengths() {
		for _, s := range contents(n) {
			for _, number := range numbers() {
				checkPacked(t, s, number)
			}
		}
	}
	for n := range 600 {
		checkPacked(t, text(n), 0)
		checkPacked(t, text(n), n+1)
	}
	for i, s := range mixedTexts(2000, 400) {
		checkPacked(t, s, 0)
		checkPacked(t, s, i*500000)
	}
}

// A record's blocks may go on beyond 2^30, the greatest number of a first one.
func TestNumbersBeyond(t *testing.T) {
	for _, s := range []string{text(55), text(109), text(1 << 18)} {
		for n := 1<<30 - 3; n <= 1<<30; n++ {
			checkPacked(t, s, n)
			got, _ := block.Pack(s, n)
			for i := 0; 64*i < len(got); i++ {
				number := uint32(got[64*i+2]) + uint32(got[64*i+3])*256 + uint32(got[64*i+4])*65536 + uint32(got[64*i+5])*16777216
				if number != uint32(n+i) {
					t.Fatalf("%d bytes from %d on: block %d has number %d", len(s), n, i, number)
				}
			}
		}
	}
}

func TestRecordsThatAreTooLong(t *testing.T) {
	for _, c := range []string{"x", "\x00", "\xff"} {
		for _, size := range []int{1<<18 + 1, 1<<18 + 2, 54 * 4855, 54*4855 + 1, 1 << 19, 1<<20 + 7} {
			for _, n := range append(noNumbers(), numbers()...) {
				checkNoPack(t, repeat(c, size), n, api.ErrLong)
			}
		}
		for _, n := range numbers() {
			checkPacked(t, repeat(c, 1<<18), n)
			checkPacked(t, repeat(c, 1<<18-1), n)
		}
	}
}

func TestNumbersThatMayNotBe(t *testing.T) {
	for _, size := range append(lengths(), 1<<18-1, 1<<18) {
		for _, n := range noNumbers() {
			checkNoPack(t, text(size), n, api.ErrArg)
		}
	}
	for bit := range 63 {
		for _, n := range []int{1 << bit, -1 << bit, 1<<bit + 1, 1<<bit - 1, -1<<bit - 1} {
			if n < 0 || n > 1<<30 {
				checkNoPack(t, "hello", n, api.ErrArg)
			} else {
				checkPacked(t, "hello", n)
			}
		}
	}
}

// given: the text s in memory that may be changed behind a call, with spare room.
func given(s string) (string, []byte) {
	b := []byte(s + "spare room")
	return unsafe.String(&b[0], len(s)), b
}

// What was given is changed behind the call: no answer turns with it, and the call has changed nothing.
func checkApart(t *testing.T, what, s string, call func(string) []string, want ...string) {
	t.Helper()
	shared, b := given(s)
	got := call(shared)
	if string(b) != s+"spare room" {
		t.Errorf("%s of %.100x changed it: %.100x", what, s, b)
	}
	for i := range b {
		b[i] ^= 0x55
	}
	if !slices.Equal(got, want) {
		t.Errorf("%s of %.100x, turned: %.300x, not %.300x", what, s, got, want)
	}
}

func TestAnswersShareNothing(t *testing.T) {
	scan := func(s string) []string { l, _ := block.Scan(s); return l }
	for _, n := range append(lengths(), 1<<18) {
		for _, s := range contents(n) {
			for _, number := range []int{-1, 0, 1, 1 << 30, 1<<30 + 1} {
				want, _ := plainPack(s, number)
				checkApart(t, "Pack", s, func(s string) []string { s, _ = block.Pack(s, number); return []string{s} }, want)
			}
			l := []string{s}
			checkApart(t, "Scan", plainFile(l...), scan, l...)
			l = []string{s, "hello", s, "", s, text(54), text(55)}
			checkApart(t, "Scan", plainFile(l...), scan, l...)
			checkApart(t, "Scan", plainFile(l...)+"more", scan, l...)
			checkApart(t, "Scan", "\x00"+plainFile(l...), scan)
		}
	}
	checkApart(t, "Pack", repeat("x", 1<<18+1), func(s string) []string { s, _ = block.Pack(s, 0); return []string{s} }, "")
}

// A list that was answered may be changed: the next one is another.
func TestListsShareNothing(t *testing.T) {
	l := []string{"hello", "", text(54), text(55), text(200)}
	s := plainFile(l...)
	got, _ := block.Scan(s)
	again, _ := block.Scan(s)
	whole := got[:cap(got)]
	for i := range whole {
		whole[i] = "spoilt"
	}
	if !slices.Equal(again, l) {
		t.Errorf("the list turns with another one: %.300x", again)
	}
	checkScan(t, s, len(s), l...)
}

func TestNothingIsKept(t *testing.T) {
	for i, s := range mixedTexts(500, 300) {
		block.Count(len(s))
		block.Pack(s, i)
		block.Pack(s, -i)
		block.Scan(s)
		block.Scan(plainFile(s, s) + s)
		block.Scan(plainBlocks(text(55), 0)[0]) // a record that stays open
		checkCount(t, 55, 2)
		checkPacked(t, "hello", 0)
		checkPacked(t, text(109), 3)
		checkScan(t, plainFile("hello", text(109)), 256, "hello", text(109))
		checkScan(t, plainBlocks(text(55), 0)[1], 0)
	}
}

func FuzzBlock(f *testing.F) {
	for i, n := range lengths() {
		f.Add(text(n), i, 3*n, uint32(1<<i|1), byte(i))
		f.Add(plainFile(text(n), "hello"), -i, n, uint32(1<<31), byte(1))
	}
	f.Fuzz(func(t *testing.T, s string, n, at int, by uint32, parts byte) {
		checkCount(t, n, plainCount(n))
		if _, code := plainPack(s, n); code == api.OK {
			checkPacked(t, s, n)
		} else {
			checkNoPack(t, s, n, code)
		}
		checkAsOther(t, s)
		var l []string
		for piece := range slices.Chunk([]byte(s), len(s)/(int(parts)+1)+1) {
			l = append(l, string(piece))
		}
		whole := file(t, l...)
		bits := 8*len(whole) + 40
		at = (at%bits + bits) % bits
		checkCut(t, l, whole, at/8)
		checkBurst(t, l, whole, at, by)
		checkAsOther(t, recount(whole, at/8, byte(by)))
	})
}
