package vote_test

import (
	"encoding/binary"
	"hash/fnv"
	"math"
	"math/bits"
	"slices"
	"strconv"
	"strings"
	"testing"

	"newsreel/sample"
	"newsreel/shingle"
	"newsreel/vote"
	"newsreel/word"
)

const all = math.MaxUint64

// expected: the votes and the signature of l told another way: by the digits of the numbers in base two, bit by bit.
func expected(l []uint64) (votes [64]int, sig uint64) {
	var rows []string
	for _, x := range l {
		rows = append(rows, sample.Digits(x))
	}
	digits := make([]byte, 64)
	for i := range digits { // the highest digit comes first
		has := 0
		for _, row := range rows {
			has += int(row[i] - '0')
		}
		votes[63-i] = has - (len(rows) - has)
		digits[i] = '0'
		if has > len(rows)-has {
			digits[i] = '1'
		}
	}
	sig, _ = strconv.ParseUint(string(digits), 2, 64)
	return votes, sig
}

// check: that l comes to this signature, its votes are those of the other way, and l is left as it is.
func check(t *testing.T, want uint64, l ...uint64) {
	t.Helper()
	handed := slices.Clone(l)
	votes, sig := expected(l)
	if sig != want {
		t.Errorf("of %.200x the other way comes to %x, not %x", l, sig, want)
	}
	if got := vote.Sig(handed); got != want {
		t.Errorf("Sig(%.200x): %x, not %x", l, got, want)
	}
	if got := vote.Votes(handed); got != votes {
		t.Errorf("Votes(%.200x): %v, not %v", l, got, votes)
	}
	if !slices.Equal(handed, l) {
		t.Errorf("%.200x is changed to %.200x", l, handed)
	}
}

// checkVotes: that the bits named have the votes named, and each other one has the rest's.
func checkVotes(t *testing.T, l []uint64, rest int, named map[int]int) {
	t.Helper()
	for bit, got := range vote.Votes(l) {
		want, ok := named[bit]
		if !ok {
			want = rest
		}
		if got != want {
			t.Errorf("Votes(%.200x): bit %d has %d, not %d", l, bit, got, want)
		}
	}
}

func TestVotes(t *testing.T) {
	checkVotes(t, []uint64{1, 1, 2}, -3, map[int]int{0: 1, 1: -1})
	checkVotes(t, []uint64{6}, -1, map[int]int{1: 1, 2: 1})
	checkVotes(t, []uint64{5, 6}, -2, map[int]int{0: 0, 1: 0, 2: 2})
	checkVotes(t, []uint64{0, 0, 0, 7, 1}, -5, map[int]int{0: -1, 1: -3, 2: -3})
	checkVotes(t, []uint64{1 << 63, 1<<63 | 1, 1 << 32, 1<<63 | 1<<31}, -4, map[int]int{0: -2, 31: -2, 32: -2, 63: 2})
}

func TestSig(t *testing.T) {
	check(t, 1, 1, 1, 2)
	check(t, 1, 2, 1, 1)
	check(t, 4, 5, 6)
	check(t, 7, 3, 5, 6)
	check(t, 0, 1, 2, 4)
	check(t, 0b0110, 0b0111, 0b1110, 0b0110, 0b0000, 0b0110)
	check(t, 0x8000000000000001, 0x8000000000000003, 0xc000000000000001, 0x8000000000000001)
	check(t, 0, 5, 2)
}

func TestOfNoNumbers(t *testing.T) {
	check(t, 0)
	few := []uint64{7, 9}
	for _, l := range [][]uint64{nil, {}, few[:0], make([]uint64, 0, 100)} {
		if vote.Votes(l) != ([64]int{}) || vote.Sig(l) != 0 {
			t.Errorf("of none: %v, %x", vote.Votes(l), vote.Sig(l))
		}
	}
}

func TestOfOneNumber(t *testing.T) {
	for _, x := range append(sample.Edges(), sample.Mixed(500)...) {
		check(t, x, x)
		for bit, v := range vote.Votes([]uint64{x}) {
			if v != 1 && v != -1 || (v == 1) != (x&(1<<bit) != 0) {
				t.Errorf("%x: bit %d has %d", x, bit, v)
			}
		}
	}
}

func TestOfOneNumberOften(t *testing.T) {
	for _, x := range []uint64{0, 1, 1 << 63, 0x8000000000000001, all, all - 1, 0xaf63dc4c8601ec8c} {
		for _, n := range []int{2, 3, 4, 127, 128, 129, 255, 256, 257} {
			check(t, x, slices.Repeat([]uint64{x}, n)...)
		}
	}
	for _, n := range []int{1<<15 - 1, 1 << 15, 1 << 16, 1<<17 + 1} { // votes that small numbers have no room for
		l := slices.Repeat([]uint64{1 << 63}, n)
		checkVotes(t, l, -n, map[int]int{63: n})
		if got := vote.Sig(l); got != 1<<63 {
			t.Errorf("%d times the highest bit: %x", n, got)
		}
	}
}

func TestOf0AndTheGreatestNumber(t *testing.T) {
	checkVotes(t, []uint64{0}, -1, nil)
	checkVotes(t, []uint64{all}, 1, nil)
	checkVotes(t, []uint64{0, all}, 0, nil)
	checkVotes(t, []uint64{all, all, 0}, 1, nil)
	checkVotes(t, []uint64{0, all, 0}, -1, nil)
	check(t, 0, 0)
	check(t, 0, 0, 0, 0)
	check(t, all, all)
	check(t, 0, 0, all)
	check(t, 0, all, 0)
	check(t, all, all, 0, all)
	check(t, 0, 0, all, 0)
	check(t, 0, all, all, 0, 0)
	check(t, all>>1, all, 0, all>>1)
}

// A vote of just 0 is not above 0: its bit stays out, and one vote more or less tells.
func TestAVoteOfJust0(t *testing.T) {
	for bit := range 64 {
		x := uint64(1) << bit
		checkVotes(t, []uint64{x, 0}, -2, map[int]int{bit: 0})
		check(t, 0, x, 0)
		check(t, 0, 0, x)
		check(t, 0, x, all^x)
		check(t, x, x, 0, x)
		check(t, 0, 0, x, 0)
		check(t, all^x, all^x, all, all^x, all)
		for n := 1; n <= 20; n++ {
			half := append(slices.Repeat([]uint64{x}, n), make([]uint64, n)...)
			check(t, 0, half...)
			check(t, 0, half[1:]...)
			check(t, x, half[:2*n-1]...)
		}
	}
}

func TestTheLowestBitAndTheHighest(t *testing.T) {
	const low, high = uint64(1), uint64(1) << 63
	checkVotes(t, []uint64{low}, -1, map[int]int{0: 1})
	checkVotes(t, []uint64{high}, -1, map[int]int{63: 1})
	checkVotes(t, []uint64{all ^ low}, 1, map[int]int{0: -1})
	checkVotes(t, []uint64{all ^ high}, 1, map[int]int{63: -1})
	check(t, low, low)
	check(t, high, high)
	check(t, 0, low, high)
	check(t, low|high, low|high, low, high)
	check(t, high, high, low, high|2)
	check(t, all^low, all^low, all^low, low)
	check(t, all^high, all^high, all, all^high)
}

func TestEachBitVotesByItself(t *testing.T) {
	var l []uint64
	for bit := range 64 { // bit 0 in one number, bit 1 in two, and so on
		l = append(l, uint64(all)<<bit)
	}
	for bit, got := range vote.Votes(l) {
		if want := 2*(bit+1) - 64; got != want {
			t.Errorf("bit %d has %d, not %d", bit, got, want)
		}
	}
	check(t, 0xffffffff00000000, l...) // 32 numbers have bit 31: just 0
	check(t, 0xffffffff80000000, l[:63]...)
}

// Of two numbers those bits are told that both have, of three those that two have.
func TestOfTwoAndOfThree(t *testing.T) {
	l := append(sample.Edges(), sample.Mixed(40)...)
	for _, a := range l {
		for _, b := range l {
			if got := vote.Sig([]uint64{a, b}); got != a&b {
				t.Fatalf("Sig of %x and %x: %x", a, b, got)
			}
			c := bits.RotateLeft64(a, 13) ^ b
			if got := vote.Sig([]uint64{a, b, c}); got != a&b|b&c|a&c {
				t.Fatalf("Sig of %x, %x and %x: %x", a, b, c, got)
			}
		}
	}
}

func TestAreThoseOfAnotherWay(t *testing.T) {
	l := append(sample.Mixed(300), sample.Edges()...)
	for from := range l {
		for n := 0; n <= 12; n++ {
			part := l[from:min(from+n, len(l))]
			_, want := expected(part)
			check(t, want, part...)
		}
	}
	for _, n := range []int{100, 1000, 4096, 5000} {
		_, want := expected(sample.Mixed(n))
		check(t, want, sample.Mixed(n)...)
	}
}

func TestTheOrderIsOfNoAccount(t *testing.T) {
	for n := 0; n <= 70; n++ {
		l := sample.Mixed(n)
		l = append(l, l[:n/2]...) // some of them twice
		_, want := expected(l)
		votes := vote.Votes(l)
		rising, turned := slices.Sorted(slices.Values(l)), slices.Clone(l)
		slices.Reverse(turned)
		for _, other := range [][]uint64{rising, turned, slices.Concat(l[n/3:], l[:n/3])} {
			if vote.Votes(other) != votes {
				t.Errorf("%d numbers in another order: %v, not %v", n, vote.Votes(other), votes)
			}
			check(t, want, other...)
		}
	}
}

func TestEachOrderOfFour(t *testing.T) {
	l := []uint64{0x8000000000000007, 0xf, 0x8000000000000003, 0x5}
	for a := range 4 {
		for b := range 4 {
			for c := range 4 {
				d := 6 - a - b - c
				if a == b || a == c || b == c {
					continue
				}
				check(t, 0x7, l[a], l[b], l[c], l[d])
			}
		}
	}
}

func TestABitThatAllHaveIsIn(t *testing.T) {
	for n := 1; n <= 60; n++ {
		for bit := range 64 {
			have, havent := sample.Mixed(n), sample.Mixed(n)
			for i := range n {
				have[i] |= 1 << bit
				havent[i] &^= 1 << bit
			}
			if vote.Votes(have)[bit] != n || vote.Sig(have)>>bit&1 != 1 {
				t.Errorf("bit %d, which all %d have, isn't in", bit, n)
			}
			if vote.Votes(havent)[bit] != -n || vote.Sig(havent)>>bit&1 != 0 {
				t.Errorf("bit %d, which none of %d has, is in", bit, n)
			}
		}
	}
}

func TestSpareRoomIsLeftAlone(t *testing.T) {
	l := []uint64{1, 3, all, all, all}
	if got := vote.Sig(l[:2]); got != 1 {
		t.Errorf("%x", got)
	}
	checkVotes(t, l[:2], -2, map[int]int{0: 2, 1: 0})
	if !slices.Equal(l, []uint64{1, 3, all, all, all}) {
		t.Errorf("%x", l)
	}
}

func TestNothingIsKept(t *testing.T) {
	l := []uint64{1, 1, 2}
	votes := vote.Votes(l)
	votes[0], votes[63] = 100, 100
	clear(l)
	checkVotes(t, l, -3, nil)
	check(t, 0, 0, 0, 0)
	check(t, 1, 1, 1, 2)
	checkVotes(t, []uint64{1, 1, 2}, -3, map[int]int{0: 1, 1: -1})
}

// hashed: the hash of a text by the library.
func hashed(s string) uint64 {
	h := fnv.New64a()
	h.Write([]byte(s))
	return h.Sum64()
}

// checkText: that the text has by k the signature of the shingles named.
func checkText(t *testing.T, s string, k int, shingles ...string) {
	t.Helper()
	var hashes []uint64
	for _, x := range shingles {
		hashes = append(hashes, hashed(x))
	}
	_, want := expected(hashes)
	if got := vote.Text(s, k); got != want {
		t.Errorf("Text(%.80q, %d): %x, not %x", s, k, got, want)
	}
}

func TestText(t *testing.T) {
	checkText(t, "Storm hits the coast", 1, "storm", "hits", "the", "coast")
	checkText(t, "Storm hits the coast", 2, "storm hits", "hits the", "the coast")
	checkText(t, "Storm hits the coast", 3, "storm hits the", "hits the coast")
	checkText(t, "Storm hits the coast", 4, "storm hits the coast")
	checkText(t, "a b a b a", 2, "a b", "b a", "a b", "b a") // those that are alike vote each time
	checkText(t, "a b a b a", 1, "a", "b", "a", "b", "a")
	checkText(t, "Ärzte: 新聞 ٣, ok?", 2, "ärzte 新聞", "新聞 ٣", "٣ ok")
	for _, x := range []struct {
		s    string
		k    int
		want uint64
	}{
		{"a", 1, 0xaf63dc4c8601ec8c},
		{"A!", 5, 0xaf63dc4c8601ec8c},
		{"a b", 1, 0xaf63dc4c8601ec8c & 0xaf63df4c8601f1a5},
		{"a b a", 1, 0xaf63dc4c8601ec8c},
		{"b a b", 1, 0xaf63df4c8601f1a5},
		{"FooBar", 3, 0x85944171f73967e8},
	} {
		if got := vote.Text(x.s, x.k); got != x.want {
			t.Errorf("Text(%q, %d): %x, not %x", x.s, x.k, got, x.want)
		}
	}
}

func TestTextsWithoutWords(t *testing.T) {
	for _, s := range []string{"", " ", "\x00", "...", " \t\r\n ", "\u00d7\u00f7", "\ufffd", "\U0001f600\U0001f600", "\xff\xfe\x80", strings.Repeat(" -", 10000)} {
		for _, k := range []int{math.MinInt, -1, 0, 1, 2, 3, 100, math.MaxInt} {
			if got := vote.Text(s, k); got != 0 {
				t.Errorf("Text(%.80q, %d): %x", s, k, got)
			}
		}
	}
}

func TestTextsOfFewerWordsThanK(t *testing.T) {
	for _, k := range []int{4, 5, 100, 1 << 16, 1 << 31, 1<<32 + 1, math.MaxInt - 1, math.MaxInt} {
		checkText(t, "One", k, "one")
		checkText(t, "one, two", k, "one two")
		checkText(t, "one, two: THREE", k, "one two three")
	}
}

func TestTextsOfAsManyWordsAsKAndOneMore(t *testing.T) {
	for k := 1; k <= 30; k++ {
		l := sample.Numbered(k + 1)
		few, more := strings.Join(l[:k], " "), strings.Join(l, ", ")
		checkText(t, few, k, few)
		checkText(t, few, k+1, few)
		checkText(t, more, k, few, strings.Join(l[1:], " "))
		if got, want := vote.Text(more, k), hashed(few)&hashed(strings.Join(l[1:], " ")); got != want {
			t.Errorf("%d words by %d: %x, not %x", k+1, k, got, want)
		}
	}
}

func TestAKBelowOne(t *testing.T) {
	for _, k := range []int{0, -1, -2, -3, -100, -1 << 31, -1<<32 + 1, math.MinInt + 1, math.MinInt} {
		for _, s := range []string{"a", "Storm hits the coast", strings.Join(sample.Numbered(5000), " ")} {
			if got := vote.Text(s, k); got != 0 {
				t.Errorf("Text(%.80q, %d): %x", s, k, got)
			}
		}
	}
}

func TestGreatAndSmallLettersAndSignsBetween(t *testing.T) {
	for _, l := range [][]string{
		{"Storm hits the coast", "storm hits THE coast", "STORM HITS THE COAST", " storm\nhits\tthe -- coast! ", "Storm, hits: (the) coast.", "storm\xffhits\xe2\x82the\u200dcoast\U0001f600", "storm\x00hits_the'coast"},
		{"ÄRZTE ŁÓDŹ ПРИВЕТ", "ärzte łódź привет", "Ärzte/Łódź/Привет"},
		{"a b", "A B", "a-b", "a, b?", "\xc3a\xc3B\xc3"},
		{"don't", "DON T", "don t"},
	} {
		for _, k := range []int{1, 2, 3, 4, 5} {
			want := vote.Text(l[0], k)
			for _, s := range l[1:] {
				if got := vote.Text(s, k); got != want {
					t.Errorf("by %d: %q has %x, %q has %x", k, l[0], want, s, got)
				}
			}
		}
	}
}

func TestTextsThatDiffer(t *testing.T) {
	for k := 1; k <= 3; k++ {
		seen := map[uint64]string{}
		for _, s := range []string{"", "storm hits the coast", "storm hits the coas", "stormhits the coast", "cat hits the coast", "storm hits the coast again", "Ärzte", "Arzte"} {
			sig := vote.Text(s, k)
			if other, ok := seen[sig]; ok {
				t.Errorf("by %d %q and %q have one signature", k, s, other)
			}
			seen[sig] = s
		}
	}
	if vote.Text("a b c", 2) == vote.Text("c b a", 2) {
		t.Error("the order of words counts within shingles")
	}
	if vote.Text("a b c", 1) != vote.Text("c b a", 1) {
		t.Error("by one the order of words is of no account")
	}
}

func TestTextsOfBytesThatAreNoRunes(t *testing.T) {
	checkText(t, "\xff", 1)
	checkText(t, "a\xffb", 1, "a", "b")
	checkText(t, "a\xe2\x82b\xc3", 2, "a b")
	checkText(t, "\xed\xa0\x80storm\xf0\x9fhits\xf4\x90\x80\x80the", 2, "storm hits", "hits the")
	checkText(t, "Aß\xc3", 1, "aß")
	checkText(t, "ab\xc1\xa1cd", 3, "ab cd") // an a by more bytes than it needs
}

// Words are those of layer 3: long ones are cut, and only the first 4096 vote.
func TestTextsWithMuch(t *testing.T) {
	long := strings.Repeat("x", 64)
	checkText(t, long+"y Z", 2, long+" z")
	for _, k := range []int{1, 2, 8} {
		l := sample.Numbered(5000)
		_, want := expected(shingle.Hashes(l[:4096], k))
		for _, n := range []int{4096, 4097, 5000} {
			if got := vote.Text(strings.Join(l[:n], " "), k); got != want {
				t.Errorf("%d words by %d: %x, not %x", n, k, got, want)
			}
		}
	}
	a, b := hashed("a"), hashed("b")
	even := strings.Repeat("a b ", 2047)
	for _, x := range []struct {
		s    string
		want uint64
	}{{even + "a", a}, {even + "b", b}, {even + "a b", a & b}, {even + "a b a", a & b}, {even + "a a b b b", a}} { // the word 4096 votes, the next one doesn't
		if got := vote.Text(x.s, 1); got != x.want {
			t.Errorf("Text(..%s, 1): %x, not %x", x.s[len(even):], got, x.want)
		}
	}
	words := sample.Numbered(4096)
	checkText(t, strings.Join(words, " "), 4096, strings.Join(words, " "))
	checkText(t, strings.Join(words, " "), 4095, strings.Join(words[:4095], " "), strings.Join(words[1:], " "))
}

// As many bytes to hash as a text may have: shingles of half the words, each of the greatest length.
func TestTextOfTheLongestShingles(t *testing.T) {
	s := strings.Repeat(strings.Repeat("x", 70)+" ", 4200)
	one := strings.TrimSuffix(strings.Repeat(strings.Repeat("x", 64)+" ", 2048), " ")
	if got := vote.Text(s, 2048); got != hashed(one) {
		t.Errorf("%x, not %x", got, hashed(one))
	}
}

// texts: n texts of words and of what stands between them, mixed.
func texts(n int) []string {
	return sample.Texts([]string{"a", "Storm", "hits", "7", " ", " ", " ", "\n", "-", "\x00", "Ä", "新", "\u0130", "\ufffd", "\xff", "\xe2\x82", "\xc3", "\U0001f600"}, n, 25)
}

func TestTextIsTheSigOfTheHashesOfTheWords(t *testing.T) {
	for _, s := range texts(3000) {
		for k := -1; k <= 8; k++ {
			checkText(t, s, k, shingle.Shingles(word.Words(s), k)...)
			if got, want := vote.Text(s, k), vote.Sig(shingle.Hashes(word.Words(s), k)); got != want {
				t.Fatalf("Text(%q, %d): %x, not %x", s, k, got, want)
			}
		}
	}
}

func FuzzVote(f *testing.F) {
	for i, s := range texts(50) {
		f.Add([]byte(s), i%6)
	}
	f.Fuzz(func(t *testing.T, b []byte, k int) {
		if len(b) > 2000 {
			return
		}
		checkText(t, string(b), k, shingle.Shingles(word.Words(string(b)), k)...)
		var l []uint64
		for ; len(b) >= 8; b = b[8:] {
			l = append(l, binary.LittleEndian.Uint64(b))
		}
		_, want := expected(l)
		check(t, want, l...)
	})
}
