package block_test

import (
	"slices"
	"strings"
	"testing"

	"newsreel/block"
	"newsreel/sample"
)

// size: how many bytes long files have.
const size = 1 << 20

// longFiles: lists of records whose files have so many bytes.
func longFiles() [][]string {
	const blocks = size / 64
	lists := [][]string{
		make([]string, blocks),                       // empty ones
		slices.Repeat([]string{text(54)}, blocks),    // full ones
		slices.Repeat([]string{text(5)}, blocks),     //
		slices.Repeat([]string{"\x00"}, blocks),      //
		slices.Repeat([]string{text(108)}, blocks/2), // of two blocks
		slices.Repeat([]string{text(55)}, blocks/2),
		{text(1 << 18), text(1 << 18), repeat("\x00", 1<<18), text(54 * (blocks - 3*4855))},
		sample.Numbered(blocks),
	}
	var mixed []string
	left := blocks
	for _, m := range sample.Mixed(blocks) {
		s := sample.Bytes(m>>8, []uint64{3, 60, 500, 20000}[m>>3%4])
		if n := plainCount(len(s)); n <= left {
			mixed = append(mixed, s)
			left -= n
		}
	}
	return append(lists, append(mixed, make([]string, left)...))
}

func TestLongFiles(t *testing.T) {
	for _, l := range longFiles() {
		s := file(t, l...)
		if len(s) != size || s != plainFile(l...) {
			t.Errorf("the file of %.100x: %d bytes", l[:4], len(s))
		}
		checkScan(t, s, size, l...)
		checkScan(t, s+s, size, l...)
		checkScan(t, s[64:], 0)
		checkScan(t, "\x00"+s, 0)
		for _, n := range []int{0, 1, 63, 64, 65, size / 2, size/2 + 1, size - 64, size - 63, size - 1} {
			checkCut(t, l, s, n)
		}
		for _, at := range []int{0, 511, 512, 4*size - 16, 4*size + 777, 8*size - 513, 8*size - 512, 8*size - 32, 8*size - 1, 8 * size} {
			checkBurst(t, l, s, at, 1)
			checkBurst(t, l, s, at, 1<<32-1)
		}
	}
}

// A file of 2^20 bytes that is one record's begin, or would be one of more than 2^18 bytes, which is none.
func TestLongFilesOfOneRecord(t *testing.T) {
	blocks := plainBlocks(text(54*size/64), 0)
	s := strings.Join(blocks, "")
	if len(s) != size {
		t.Errorf("%d bytes", len(s))
	}
	checkScan(t, s, 0)
	checkScan(t, s[:size-64], 0)
	checkScan(t, s[:4855*64], 0)
	checkScan(t, s[:4854*64]+right(4, 4854, text(28)), 4855*64, text(54*4854)+text(28))
	checkScan(t, s[:4854*64]+right(4, 4854, text(29)), 0)
	checkScan(t, s[:4855*64]+right(4, 4855, "x"), 0)
}

// TestTimeGrowsAsTheText: a file so long that one that was gone through, or put together, anew for each block would not come to its end within a test.
func TestTimeGrowsAsTheText(t *testing.T) {
	for _, l := range [][]string{make([]string, 1<<18), slices.Repeat([]string{text(1 << 18)}, 54)} {
		s := file(t, l...)
		got, n := block.Scan(s)
		if !slices.Equal(got, l) || n != len(s) {
			t.Errorf("Scan of %d bytes: %d records, %d", len(s), len(got), n)
		}
		if got, n = block.Scan(s[:len(s)-1]); !slices.Equal(got, l[:len(l)-1]) || n != len(s)-64*plainCount(len(l[0])) {
			t.Errorf("Scan of %d bytes: %d records, %d", len(s)-1, len(got), n)
		}
	}
}
