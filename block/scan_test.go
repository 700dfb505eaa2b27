package block_test

import (
	"slices"
	"strings"
	"testing"

	"newsreel/block"
	"newsreel/sample"
)

// checkScan: just these records are read of s, and their blocks have so many bytes; so it is with spare room, and the other way.
func checkScan(t *testing.T, s string, bytes int, want ...string) {
	t.Helper()
	if l, n := plainScan(s); !slices.Equal(l, want) || n != bytes {
		t.Errorf("the other way of %.300x: %.300x, %d, not %.300x, %d", s, l, n, want, bytes)
	}
	if l, n := block.Scan(s); !slices.Equal(l, want) || n != bytes {
		t.Errorf("Scan(%.300x): %.300x, %d, not %.300x, %d", s, l, n, want, bytes)
	}
}

// checkAsOther: those records are read of s that are read the other way.
func checkAsOther(t *testing.T, s string) {
	t.Helper()
	l, n := plainScan(s)
	checkScan(t, s, n, l...)
}

// recount: s, of which the block with the byte at that place has that byte there, and a right sum; s itself, if there is none.
func recount(s string, at int, c byte) string {
	from := at / 64 * 64
	if from+64 > len(s) {
		return s
	}
	b := []byte(s)
	if at%64 < 60 {
		b[at] = c
	}
	return s[:from] + plainSeal(string(b[from:from+60])) + s[from+64:]
}

// aheads: lists of records that stand ahead of what a test is about.
func aheads() [][]string {
	return [][]string{nil, {"hello"}, {""}, {text(54)}, {text(55)}, {text(200), "", "a", text(54), text(163)}}
}

// checkBehind: behind each of those lists, and ahead of right records, nothing is read from those blocks on, which are made by the number of the first one.
func checkBehind(t *testing.T, what string, blocks func(n int) []string) {
	t.Helper()
	for _, l := range aheads() {
		s := plainFile(l...)
		bad := blocks(len(s) / 64)
		for n := range len(bad) + 1 {
			part := s + strings.Join(bad[:n], "")
			checkScan(t, part, len(s), l...)
			checkScan(t, part+repeat("\x00", 10), len(s), l...)
		}
		rest := append(plainBlocks("more", len(s)/64+len(bad)), plainBlocks(text(109), len(s)/64+len(bad)+1)...)
		checkScan(t, s+strings.Join(bad, "")+strings.Join(rest, ""), len(s), l...)
		if t.Failed() {
			t.Fatal(what)
		}
	}
}

// right: a block with as many bytes as the text has.
func right(kind byte, n int, text string) string {
	return plainBlock(kind, byte(len(text)), uint32(n), text)
}

func TestScan(t *testing.T) {
	for _, l := range [][]string{
		nil, {""}, {"", ""}, {"", "", ""}, {"hello"}, {"hello", "hello"}, {"hello", ""}, {"", "hello"},
		{text(53)}, {text(54)}, {text(55)}, {text(108)}, {text(109)}, {text(163)},
		{text(54), text(54)}, {text(55), text(55)}, {text(54), text(55)}, {text(55), text(54)}, {text(55), ""}, {"", text(55)},
		{"a", text(55), "b", text(109), "", text(540), text(54), "c"},
		{text(109), text(109), text(109), text(163), text(162)},
		{repeat("\x00", 54), repeat("\x00", 55), "\x00", "\x00\x00", "", repeat("\x00", 500)},
		{text(1 << 18)}, {"a", text(1 << 18), "", text(1<<18 - 1), "b"},
		{plainFile("hello"), plainFile(text(55), ""), "b"}, // blocks within blocks
	} {
		checkScan(t, plainFile(l...), len(plainFile(l...)), l...)
		if got := file(t, l...); got != plainFile(l...) {
			t.Errorf("the file of %.300x: %.300x", l, got)
		}
	}
}

func TestBytesThatAreNoBlocks(t *testing.T) {
	for _, n := range []int{0, 1, 2, 6, 10, 59, 60, 63, 64, 65, 127, 128, 129, 1000} {
		for _, s := range contents(n) {
			checkScan(t, s, 0)
		}
		checkScan(t, plainSeal(text(n)), 0)
	}
	checkScan(t, plainSeal(repeat("\x00", 60)), 0) // kind 0: else it would be as an empty record is
	for _, s := range mixedTexts(1000, 300) {
		checkScan(t, s, 0)
	}
}

// What is behind the last whole block counts for nothing, though it be a block's begin.
func TestBehindTheLastWholeBlock(t *testing.T) {
	for _, l := range aheads() {
		s := plainFile(l...)
		next := plainBlocks("next", len(s)/64)[0]
		first := plainBlocks(text(55), len(s)/64)[0]
		for n := range 64 {
			checkScan(t, s+repeat("\x00", n), len(s), l...)
			checkScan(t, s+text(n), len(s), l...)
			checkScan(t, s+next[:n], len(s), l...)
			checkScan(t, s+first[:n], len(s), l...)
			checkScan(t, s+first+next[:n], len(s), l...)
			checkScan(t, s+next+first[:n], len(s)+64, append(slices.Clone(l), "next")...)
		}
		checkScan(t, s+next+"x", len(s)+64, append(slices.Clone(l), "next")...)
	}
}

func TestKinds(t *testing.T) {
	for kind := range 256 {
		for _, size := range []int{0, 1, 5, 53, 54} {
			if kind == 1 {
				checkScan(t, right(1, 0, text(size)), 64, text(size))
				continue
			}
			checkBehind(t, "a block of another kind", func(n int) []string { return []string{right(byte(kind), n, text(size))} })
		}
		if kind == 3 || kind == 4 {
			continue
		}
		checkBehind(t, "a block of another kind, where a record is open", func(n int) []string {
			return []string{right(2, n, text(54)), right(byte(kind), n+1, text(54)), right(4, n+2, "end")}
		})
	}
}

// A number that is too small, too great, comes twice, or has its bytes in another order.
func TestNumbers(t *testing.T) {
	for _, off := range []int{-1 << 24, -256, -2, -1, 1, 2, 255, 256, 1 << 16, 1 << 24, 1 << 30, 1 << 31, 1<<32 - 1} {
		checkBehind(t, "a whole record's", func(n int) []string { return []string{right(1, n+off, "hello")} })
		checkBehind(t, "a first block's", func(n int) []string { return []string{right(2, n+off, text(54)), right(4, n+1, "end")} })
		checkBehind(t, "both", func(n int) []string { return plainBlocks(text(55), n+off) })
		checkBehind(t, "a last block's", func(n int) []string { return []string{right(2, n, text(54)), right(4, n+1+off, "end")} })
		checkBehind(t, "one's amid", func(n int) []string {
			return []string{right(2, n, text(54)), right(3, n+1+off, text(54)), right(4, n+2, "end")}
		})
	}
	for _, n := range numbers() {
		if n > 0 {
			checkScan(t, right(1, n, "hello"), 0)
			checkScan(t, right(1, n, "hello")+right(1, n+1, "hello"), 0)
		}
	}
	checkScan(t, right(1, 0, "a")+right(1, 0, "b")+right(1, 1, "c"), 64, "a")
	checkScan(t, right(1, 0, "a")+right(1, 1, "b")+right(1, 1, "b")+right(1, 2, "c"), 128, "a", "b")
	checkScan(t, right(1, 1, "a")+right(1, 0, "b"), 0)
	checkScan(t, right(1, 0, "a")+right(1, 2, "b")+right(1, 1, "c"), 64, "a")
	checkScan(t, right(2, 0, text(54))+right(2, 0, text(54))+right(4, 1, "b"), 0)
	checkScan(t, right(2, 0, text(54))+right(4, 2, "b"), 0)
	checkScan(t, right(2, 0, text(54))+right(4, 1, "b")+right(4, 1, "b"), 128, text(54)+"b")
	checkScan(t, right(2, 0, text(54))+right(3, 1, text(54))+right(3, 1, text(54))+right(4, 2, "b"), 0)
	l := make([]string, 300)
	s := plainFile(l...)
	checkScan(t, s[:256*64]+right(1, 1, "")+s[257*64:], 256*64, l[:256]...)
	checkScan(t, s[:256*64]+right(1, 0, "")+s[257*64:], 256*64, l[:256]...)
	checkScan(t, s[:256*64]+right(1, 1<<24, "")+s[257*64:], 256*64, l[:256]...)
}

// How many bytes there are is told as less, or as more: bytes 0 behind them are the record's own then, up to the room that a block has.
func TestBytesThatAreTold(t *testing.T) {
	for _, size := range []int{0, 1, 5, 53, 54} {
		s := text(size)
		for count := range 256 {
			whole := func(n int) []string { return []string{plainBlock(1, byte(count), uint32(n), s)} }
			ended := func(n int) []string {
				return []string{right(2, n, text(54)), plainBlock(4, byte(count), uint32(n+1), s)}
			}
			if count < size || count > 54 {
				checkBehind(t, "a whole record", whole)
				checkBehind(t, "a last block", ended)
				continue
			}
			want := s + repeat("\x00", count-size)
			checkScan(t, strings.Join(whole(0), ""), 64, want)
			if count > 0 {
				checkScan(t, strings.Join(ended(0), ""), 128, text(54)+want)
			}
		}
	}
}

// Each byte behind those that are told must be 0, with a right sum too.
func TestBytesBehind(t *testing.T) {
	for size := range 54 {
		for at := size; at < 54; at++ {
			for _, c := range []byte{1, 0x80, 0xff, ' '} {
				b := []byte(text(54))
				clear(b[size:])
				b[at] = c
				checkScan(t, plainBlock(1, byte(size), 0, string(b)), 0)
				checkScan(t, right(1, 0, "a")+plainBlock(1, byte(size), 1, string(b))+right(1, 2, "b"), 64, "a")
				checkScan(t, right(2, 0, text(54))+plainBlock(4, byte(size), 1, string(b)), 0)
			}
		}
	}
}

// Each byte of a block's sum, and sums of less than all that is ahead.
func TestSums(t *testing.T) {
	for _, l := range aheads() {
		s := plainFile(l...)
		next := plainBlocks("next", len(s)/64)[0]
		for at := 60; at < 64; at++ {
			for c := range 256 {
				b := []byte(next)
				b[at] ^= byte(c)
				if c == 0 {
					checkScan(t, s+string(b), len(s)+64, append(slices.Clone(l), "next")...)
				} else {
					checkScan(t, s+string(b)+next, len(s), l...)
				}
			}
		}
		short := plainSeal(next[:10]) // as if it were of the bytes that are told alone
		checkScan(t, s+next[:60]+short[10:], len(s), l...)
		checkScan(t, s+next[:60]+"\x00\x00\x00\x00", len(s), l...)
		checkScan(t, s+next[:60]+"\xff\xff\xff\xff", len(s), l...)
		checkScan(t, s+next[:60]+string([]byte{next[63], next[62], next[61], next[60]}), len(s), l...)
	}
}

// All blocks of a record but the last one have as many bytes as there is room for; the last one has one at least.
func TestBlocksThatDoNotStandAsTheyMust(t *testing.T) {
	full := text(54)
	for size := range 54 {
		s := text(size)
		checkBehind(t, "a first block with room", func(n int) []string { return []string{right(2, n, s), right(4, n+1, "end")} })
		checkBehind(t, "one amid with room", func(n int) []string {
			return []string{right(2, n, full), right(3, n+1, s), right(4, n+2, "end")}
		})
		checkBehind(t, "one amid with room, behind another one", func(n int) []string {
			return []string{right(2, n, full), right(3, n+1, full), right(3, n+2, s), right(4, n+3, "end")}
		})
	}
	for _, row := range []struct {
		what  string
		kinds string
		sizes string
	}{
		{"one amid, where none is open", "\x03", "\x36"},
		{"one amid, where none is open, and a last one", "\x03\x04", "\x36\x01"},
		{"a last one, where none is open", "\x04", "\x01"},
		{"a last one that is full, where none is open", "\x04", "\x36"},
		{"a last one without bytes, where none is open", "\x04", "\x00"},
		{"a last one without bytes", "\x02\x04", "\x36\x00"},
		{"a last one without bytes, behind one amid", "\x02\x03\x04", "\x36\x36\x00"},
		{"a whole one, where one is open", "\x02\x01", "\x36\x05"},
		{"a whole one, where one is open, and its end", "\x02\x01\x04", "\x36\x05\x01"},
		{"a whole one without bytes, where one is open", "\x02\x01\x04", "\x36\x00\x01"},
		{"a whole one that is full, where one is open", "\x02\x01\x04", "\x36\x36\x01"},
		{"a whole one behind one amid", "\x02\x03\x01\x04", "\x36\x36\x05\x01"},
		{"a first one, where one is open", "\x02\x02\x04", "\x36\x36\x01"},
		{"a first one behind one amid", "\x02\x03\x02\x04", "\x36\x36\x36\x01"},
		{"a first one, and two ends", "\x02\x02\x04\x04", "\x36\x36\x01\x01"},
	} {
		checkBehind(t, row.what, func(n int) []string {
			var l []string
			for i := range len(row.kinds) {
				l = append(l, right(row.kinds[i], n+i, text(int(row.sizes[i]))))
			}
			return l
		})
	}
	checkScan(t, strings.Join(append(plainBlocks(text(55), 0), right(4, 2, "x"), right(1, 3, "y")), ""), 128, text(55)) // it was ended already
	checkScan(t, strings.Join(append(plainBlocks(text(55), 0), right(3, 2, full), right(4, 3, "y")), ""), 128, text(55))
	checkScan(t, right(1, 0, full)+right(4, 1, "x")+right(1, 2, "y"), 64, full)
}

// A record that isn't ended isn't read, nor are its blocks counted.
func TestRecordsThatAreOpen(t *testing.T) {
	for _, size := range []int{55, 108, 109, 163, 540, 1 << 18} {
		checkBehind(t, "but for the last block", func(n int) []string {
			l := plainBlocks(text(size), n)
			return append(l[:min(len(l)-1, 12)], right(1, n+min(len(l)-1, 12), "hello"))
		})
		blocks := plainBlocks(text(size), 0)
		checkScan(t, strings.Join(blocks[:len(blocks)-1], ""), 0)
		checkScan(t, strings.Join(blocks, ""), 64*len(blocks), text(size))
	}
}

// checkLong: of the blocks of a record of so many bytes nothing is read, neither behind others.
func checkLong(t *testing.T, size int) {
	t.Helper()
	for _, l := range [][]string{nil, {"hello"}, {text(200), ""}} {
		s := plainFile(l...)
		blocks := plainBlocks(text(size), len(s)/64)
		next := plainBlocks("next", len(s)/64+len(blocks))[0]
		checkScan(t, s+strings.Join(blocks, "")+next, len(s), l...)
	}
}

func TestRecordsOfTooManyBytes(t *testing.T) {
	for size := 1<<18 + 1; size <= 54*4855+2; size++ { // up to one block more
		checkLong(t, size)
	}
	for _, size := range []int{54*4856 - 1, 54 * 4856, 54*4856 + 1, 1 << 19, 1 << 20} {
		checkLong(t, size)
	}
	for _, size := range []int{54 * 4854, 54*4854 + 1, 1<<18 - 1, 1 << 18} {
		s := text(size)
		checkScan(t, plainFile("hello", s, "next", s), 64*(2+2*plainCount(size)), "hello", s, "next", s)
	}
}

// Each row of up to four of these blocks, whose numbers are right but where it is said.
func TestRowsOfBlocks(t *testing.T) {
	full := text(54)
	parts := []func(n int) string{
		func(n int) string { return right(1, n, "") },
		func(n int) string { return right(1, n, "hello") },
		func(n int) string { return right(1, n, full) },
		func(n int) string { return right(2, n, full) },
		func(n int) string { return right(2, n, full[1:]) },
		func(n int) string { return right(3, n, full) },
		func(n int) string { return right(3, n, full[1:]) },
		func(n int) string { return right(4, n, "") },
		func(n int) string { return right(4, n, "end") },
		func(n int) string { return right(4, n, full) },
		func(n int) string { return right(0, n, full) },
		func(n int) string { return right(5, n, full) },
		func(n int) string { return right(1, n+1, "hello") },
		func(n int) string { return right(4, 0, "end") },
		func(n int) string { return right(1, n, "hello")[:63] },
	}
	checkRows(t, parts, 4)
	checkRows(t, []func(n int) string{parts[0], parts[3], parts[5], parts[8]}, 7)
}

// checkRows: each row of up to so many of the parts is read as it is the other way.
func checkRows(t *testing.T, parts []func(n int) string, most int) {
	t.Helper()
	for l := range sample.Lists(parts, most) {
		s := ""
		for i, part := range l {
			s += part(i)
		}
		checkAsOther(t, s)
	}
}

// One byte of a file is another one, the sum of its block right again.
func TestEachByteWithARightSum(t *testing.T) {
	s := plainFile("hello", text(109), "", text(55))
	for at := range len(s) {
		for c := range 256 {
			checkAsOther(t, recount(s, at, byte(c)))
		}
	}
}

// Blocks of right files, one dropped, twice, or two in each other's place.
func TestBlocksInAnotherOrder(t *testing.T) {
	l := []string{"hello", text(109), "", text(55), text(54), "end"}
	var blocks []string
	for _, s := range l {
		blocks = append(blocks, plainBlocks(s, len(blocks))...)
	}
	whole := strings.Join(blocks, "")
	for i := range blocks {
		want, n := held(l, 64*i)
		checkScan(t, strings.Join(blocks[:i], "")+strings.Join(blocks[i+1:], ""), n, want...)
		if i == 0 {
			continue
		}
		checkScan(t, strings.Join(blocks[i:], ""), 0)
		checkScan(t, strings.Join(blocks[:i], "")+strings.Join(blocks[i-1:], ""), n, want...)
		for k := range i {
			turned := slices.Clone(blocks)
			turned[i], turned[k] = turned[k], turned[i]
			want, n := held(l, 64*k)
			checkScan(t, strings.Join(turned, ""), n, want...)
		}
	}
	checkScan(t, whole, len(whole), l...)
	checkScan(t, whole+whole, len(whole), l...)
}
