package block_test

import (
	"encoding/binary"
	"hash/crc32"
	"math/big"
	"regexp"
	"slices"
	"strings"

	"newsreel/api"
)

// Other ways of telling what layer 19 tells: the library's sums and bytes, pieces by the library, and a letter for each block, of which a regular expression finds the records.

// plainCount: the bytes' number divided by 54, as great numbers are, and one more, if something is left.
func plainCount(n int) int {
	if n < 1 {
		return 1
	}
	count, rest := new(big.Int).DivMod(big.NewInt(int64(n)), big.NewInt(54), new(big.Int))
	if rest.Sign() > 0 {
		count.Add(count, big.NewInt(1))
	}
	return int(count.Int64())
}

// plainBlock: a block with a right sum, of which each part is told, not just such as there may be.
func plainBlock(kind, count byte, number uint32, text string) string {
	b := make([]byte, 60)
	b[0], b[1] = kind, count
	binary.LittleEndian.PutUint32(b[2:], number)
	copy(b[6:], text)
	return plainSeal(string(b))
}

// plainSeal: the bytes of s, and those of their sum.
func plainSeal(s string) string {
	return string(binary.LittleEndian.AppendUint32([]byte(s), crc32.ChecksumIEEE([]byte(s))))
}

// plainBlocks: the blocks of a record, whatever its length and numbers are.
func plainBlocks(s string, n int) []string {
	pieces := slices.Collect(slices.Chunk([]byte(s), 54))
	if len(pieces) < 2 {
		return []string{plainBlock(1, byte(len(s)), uint32(n), s)}
	}
	var l []string
	kinds := "\x02" + strings.Repeat("\x03", len(pieces)-2) + "\x04"
	for i, piece := range pieces {
		l = append(l, plainBlock(kinds[i], byte(len(piece)), uint32(n+i), string(piece)))
	}
	return l
}

func plainPack(s string, n int) (string, api.Code) {
	if len(s) > 262144 {
		return "", api.ErrLong
	}
	if n < 0 || n > 1073741824 {
		return "", api.ErrArg
	}
	return strings.Join(plainBlocks(s, n), ""), api.OK
}

// plainFile: the blocks of records, one behind the other, numbers from 0 on.
func plainFile(l ...string) string {
	var blocks []string
	for _, s := range l {
		blocks = append(blocks, plainBlocks(s, len(blocks))...)
	}
	return strings.Join(blocks, "")
}

var records = regexp.MustCompile(`w|fa*l`)
var ahead = regexp.MustCompile(`^(w|fa*l)*`)

func plainScan(s string) ([]string, int) {
	letters, pieces := plainLetters(s)
	var l []string
	at := 0
	for _, blocks := range records.FindAllString(ahead.FindString(letters), -1) {
		text := strings.Join(pieces[at:at+len(blocks)], "")
		if len(text) > 262144 {
			break
		}
		l = append(l, text)
		at += len(blocks)
	}
	return l, 64 * at
}

// plainLetters: a letter for each whole block, and what it has of a record.
func plainLetters(s string) (string, []string) {
	var letters strings.Builder
	var pieces []string
	for b := range slices.Chunk([]byte(s), 64) {
		letter, piece := plainLetter(string(b), len(pieces))
		letters.WriteString(letter)
		pieces = append(pieces, piece)
		if letter == "x" {
			break // what follows isn't read
		}
	}
	return letters.String(), pieces
}

// plainLetter: w a whole record, f a first block, a one amid, l a last one, which have as many bytes as they must; x whatever else there is.
func plainLetter(s string, number int) (string, string) {
	if len(s) != 64 || plainSeal(s[:60]) != s || int64(binary.LittleEndian.Uint32([]byte(s[2:]))) != int64(number) || s[1] > 54 {
		return "x", ""
	}
	size := int(s[1])
	piece, rest := s[6:6+size], s[6+size:60]
	full := size == 54
	switch {
	case strings.Trim(rest, "\x00") != "":
	case s[0] == 1:
		return "w", piece
	case s[0] == 2 && full:
		return "f", piece
	case s[0] == 3 && full:
		return "a", piece
	case s[0] == 4 && size != 0:
		return "l", piece
	}
	return "x", ""
}

// plainBurst: s, of which those bits are turned, one by one.
func plainBurst(s string, at int, by uint32) string {
	b := []byte(s)
	for k := range 32 {
		if bit := at + k; by>>k&1 == 1 && bit < 8*len(b) {
			b[bit/8] ^= 1 << (bit % 8)
		}
	}
	return string(b)
}
