package shingle_test

import (
	"hash/fnv"
	"math"
	"math/big"
	"slices"
	"strings"
	"testing"

	"newsreel/sample"
	"newsreel/shingle"
	"newsreel/word"
)

// hashed: the hash by the library.
func hashed(s string) uint64 {
	h := fnv.New64a()
	h.Write([]byte(s))
	return h.Sum64()
}

// reckoned: the hash in the chapter's own numbers, by whole numbers without bound, cut to 64 bits.
func reckoned(s string) uint64 {
	h, _ := new(big.Int).SetString("14695981039346656037", 10)
	prime, end := big.NewInt(1099511628211), new(big.Int).Lsh(big.NewInt(1), 64)
	for _, b := range []byte(s) {
		h.Xor(h, big.NewInt(int64(b)))
		h.Mod(h.Mul(h, prime), end)
	}
	return h.Uint64()
}

// expected: the shingles told another way: the first one, and those of all words but the first.
func expected(l []string, k int) []string {
	if len(l) == 0 || k < 1 {
		return nil
	}
	first := l[0]
	for i := 1; i < len(l) && i < k; i++ {
		first += " " + l[i]
	}
	if len(l) <= k {
		return []string{first}
	}
	return append([]string{first}, expected(l[1:], k)...)
}

// check: that both calls tell these shingles, and leave l as it is.
func check(t *testing.T, l []string, k int, want ...string) {
	t.Helper()
	handed := slices.Clone(l)
	if got := shingle.Shingles(handed, k); !slices.Equal(got, want) {
		t.Errorf("Shingles(%.200q, %d): %.400q, not %.400q", l, k, got, want)
	}
	var hashes []uint64
	for _, s := range want {
		hashes = append(hashes, hashed(s))
	}
	if got := shingle.Hashes(handed, k); !slices.Equal(got, hashes) {
		t.Errorf("Hashes(%.200q, %d): %.200x, not %.200x", l, k, got, hashes)
	}
	if !slices.Equal(handed, l) {
		t.Errorf("by %d %.200q is changed to %.200q", k, l, handed)
	}
}

// lists: n lists of words, of empty ones, of those that hold blanks and of bytes that are no runes', mixed.
func lists(n int) [][]string {
	var all [][]string
	for _, s := range sample.Texts([]string{"|", "|", "|", "a", "b", "storm", " ", "  ", "\n", "\x00", "Ä", "新", "\U0001f600", "\xff", "\xe2\x82", "\xc3"}, n, 20) {
		all = append(all, strings.Split(s, "|"))
	}
	return append(all, nil, []string{})
}

func TestHashOfFewBytes(t *testing.T) {
	for _, x := range []struct {
		s string
		h uint64
	}{
		{"", 0xcbf29ce484222325},
		{"a", 0xaf63dc4c8601ec8c},
		{"b", 0xaf63df4c8601f1a5},
		{"foobar", 0x85944171f73967e8},
		{"\x00", 0xaf63bd4c8601b7df},
		{"\x00\x00", 0x08328807b4eb6fed},
		{"\xff", 0xaf64724c8602eb6e},
	} {
		if got := shingle.Hash(x.s); got != x.h {
			t.Errorf("Hash(%q): %x, not %x", x.s, got, x.h)
		}
	}
}

func TestHashOfEachByte(t *testing.T) {
	for a := range 256 {
		for _, s := range []string{string([]byte{byte(a)}), string([]byte{byte(a), 0}), string([]byte{0, byte(a)}), string([]byte{byte(a), 0xff}), string([]byte{0xff, byte(a)})} {
			if got, want := shingle.Hash(s), reckoned(s); got != want || got != hashed(s) {
				t.Errorf("Hash(% x): %x, not %x", s, got, want)
			}
		}
	}
}

func TestHashOfTexts(t *testing.T) {
	more := []string{" ", "  ", "storm hits", "Storm hits", "storm hits ", "hits storm", "ärzte", "a\u0308rzte", "新聞", "\U0001f600", "\xff\xfe", "\xe2\x82", "\xef\xbf\xbd", "a\x00", "\x00a"}
	seen := map[uint64]string{}
	for _, s := range more {
		if other, ok := seen[shingle.Hash(s)]; ok {
			t.Errorf("%q and %q have one hash", s, other)
		}
		seen[shingle.Hash(s)] = s
	}
	for _, l := range lists(2000) {
		more = append(more, strings.Join(l, "|"))
	}
	for _, s := range more {
		if got, want := shingle.Hash(s), reckoned(s); got != want {
			t.Fatalf("Hash(%q): %x, not %x", s, got, want)
		}
	}
}

func TestHashOfLongTexts(t *testing.T) {
	for _, s := range []string{strings.Repeat("a", 1<<16), strings.Repeat("a", 1<<16+1), strings.Repeat("\x00", 1<<20), strings.Repeat("\xff", 1<<20), strings.Repeat("storm hits the coast ", 1<<17), strings.Repeat("新\xe2", 1<<18)} {
		if got, want := shingle.Hash(s), hashed(s); got != want {
			t.Errorf("Hash of %d bytes: %x, not %x", len(s), got, want)
		}
	}
}

func TestShingles(t *testing.T) {
	l := []string{"a", "b", "c"}
	check(t, l, 1, "a", "b", "c")
	check(t, l, 2, "a b", "b c")
	check(t, l, 3, "a b c")
	storm := []string{"storm", "hits", "the", "coast", "again"}
	check(t, storm, 2, "storm hits", "hits the", "the coast", "coast again")
	check(t, storm, 3, "storm hits the", "hits the coast", "the coast again")
	check(t, storm, 4, "storm hits the coast", "hits the coast again")
	check(t, []string{"b", "a", "b", "a"}, 2, "b a", "a b", "b a")
	check(t, []string{"a", "a", "a", "a"}, 2, "a a", "a a", "a a") // those that are alike are told each time
	check(t, []string{"z", "y", "x"}, 1, "z", "y", "x")
}

func TestOfNoWords(t *testing.T) {
	for _, k := range []int{math.MinInt, -1, 0, 1, 2, 3, math.MaxInt} {
		check(t, nil, k)
		check(t, []string{}, k)
		check(t, []string{"a", "b"}[:0], k)
	}
}

func TestOfFewerWordsThanK(t *testing.T) {
	check(t, []string{"a"}, 2, "a")
	check(t, []string{"a", "b"}, 3, "a b")
	check(t, []string{"a", "b"}, 100, "a b")
	check(t, []string{"a", "b", "c"}, 4, "a b c")
	for _, k := range []int{1 << 8, 1 << 16, 1<<31 - 1, 1 << 31, 1<<32 + 1, 1 << 62, math.MaxInt - 3, math.MaxInt - 2, math.MaxInt - 1, math.MaxInt} {
		check(t, []string{"a"}, k, "a")
		check(t, []string{"a", "b", "c"}, k, "a b c")
	}
}

func TestOfAsManyWordsAsKAndOneMore(t *testing.T) {
	for k := 1; k <= 40; k++ {
		l := sample.Numbered(k + 1)
		check(t, l[:k], k, strings.Join(l[:k], " "))
		check(t, l, k, strings.Join(l[:k], " "), strings.Join(l[1:], " "))
		check(t, l, k+2, strings.Join(l, " "))
	}
}

func TestByOneTheShinglesAreTheWords(t *testing.T) {
	for _, l := range append(lists(500), sample.Numbered(1), sample.Numbered(5000)) {
		check(t, l, 1, l...)
	}
}

func TestOfAKBelowOne(t *testing.T) {
	for _, k := range []int{0, -1, -2, -3, -100, -1 << 31, -1<<32 + 1, math.MinInt + 2, math.MinInt + 1, math.MinInt} {
		check(t, []string{"a"}, k)
		check(t, []string{"a", "b", "c"}, k)
		check(t, []string{""}, k)
		check(t, sample.Numbered(100), k)
	}
}

func TestOfEmptyWordsAndOfBlanks(t *testing.T) {
	check(t, []string{""}, 1, "")
	check(t, []string{""}, 2, "")
	check(t, []string{"", ""}, 1, "", "")
	check(t, []string{"", ""}, 2, " ")
	check(t, []string{"", "", ""}, 2, " ", " ")
	check(t, []string{"", "a", ""}, 2, " a", "a ")
	check(t, []string{"", "a", ""}, 5, " a ")
	check(t, []string{" "}, 1, " ")
	check(t, []string{" ", " "}, 2, "   ")
	check(t, []string{"a b", "c"}, 1, "a b", "c")
	check(t, []string{"a b", "c"}, 2, "a b c")
	check(t, []string{" a", "b ", "\tc\n"}, 2, " a b ", "b  \tc\n")
}

// A word is any text: it is neither cut, nor folded, nor read as runes.
func TestWordsAreTakenAsTheyAre(t *testing.T) {
	check(t, []string{"Don't", "PANIC", "Ä"}, 2, "Don't PANIC", "PANIC Ä")
	check(t, []string{"\xff", "\xe2\x82", "\xac\x00"}, 2, "\xff \xe2\x82", "\xe2\x82 \xac\x00")
	check(t, []string{"\xed\xa0\x80", "\xef\xbf\xbd"}, 1, "\xed\xa0\x80", "\xef\xbf\xbd")
	check(t, []string{"\x00", "\x00", "\xff"}, 2, "\x00 \x00", "\x00 \xff")
	long := strings.Repeat("新", 1<<16)
	check(t, []string{long, "b", long + "\xe6"}, 2, long+" b", "b "+long+"\xe6")
}

func TestAreThoseOfAnotherWay(t *testing.T) {
	for _, l := range lists(3000) {
		for k := -2; k <= 14; k++ {
			check(t, l, k, expected(l, k)...)
		}
	}
}

func TestHowMany(t *testing.T) {
	for n := range 60 {
		for k := 1; k <= 64; k++ {
			want := n - k + 1
			if want < 1 {
				want = min(n, 1)
			}
			l := sample.Numbered(n)
			if s, h := len(shingle.Shingles(l, k)), len(shingle.Hashes(l, k)); s != want || h != want {
				t.Errorf("of %d words by %d: %d and %d, not %d", n, k, s, h, want)
			}
		}
	}
}

func TestManyWords(t *testing.T) {
	l := sample.Numbered(5000) // more than a text's words may be: the chapter cuts none
	var pairs []string
	for i := range len(l) - 1 {
		pairs = append(pairs, l[i]+" "+l[i+1])
	}
	check(t, l, 2, pairs...)
	check(t, l, 4999, strings.Join(l[:4999], " "), strings.Join(l[1:], " "))
	check(t, l, 5000, strings.Join(l, " "))
	check(t, l, 5001, strings.Join(l, " "))
}

func TestHashesAreThoseOfTheShingles(t *testing.T) {
	for _, x := range []struct {
		l []string
		k int
	}{{[]string{"a", "b", "c"}, 2}, {[]string{"a"}, 3}, {sample.Numbered(300), 7}, {[]string{"", " ", "\xff"}, 2}} {
		var want []uint64
		for _, s := range shingle.Shingles(x.l, x.k) {
			want = append(want, shingle.Hash(s))
		}
		if got := shingle.Hashes(x.l, x.k); len(want) == 0 || !slices.Equal(got, want) {
			t.Errorf("Hashes(%.200q, %d): %x, not %x", x.l, x.k, got, want)
		}
	}
	if got := shingle.Hashes([]string{"a"}, 1); !slices.Equal(got, []uint64{0xaf63dc4c8601ec8c}) {
		t.Errorf("Hashes of a: %x", got)
	}
}

func TestOfTheWordsOfAText(t *testing.T) {
	check(t, word.Words("Storm hits THE coast!"), 3, "storm hits the", "hits the coast")
	check(t, word.Words("... "), 3)
	check(t, word.Words("Don't"), 3, "don t")
}

func TestSpareRoomIsLeftAlone(t *testing.T) {
	l := []string{"a", "b", "kept", "too"}
	for _, k := range []int{1, 2, 3, math.MaxInt} {
		check(t, l[:2], k, expected([]string{"a", "b"}, k)...)
	}
	if !slices.Equal(l, []string{"a", "b", "kept", "too"}) {
		t.Errorf("%q", l)
	}
}

func TestAnswersShareNothing(t *testing.T) {
	for _, k := range []int{1, 2, 3, 9} {
		l := []string{"one", "two", "three"}
		want := expected(l, k)
		a, b := shingle.Shingles(l, k), shingle.Shingles(l, k)
		x, y := shingle.Hashes(l, k), shingle.Hashes(l, k)
		clear(a[:cap(a)])
		clear(x[:cap(x)])
		check(t, l, k, want...)
		clear(l)
		if !slices.Equal(b, want) || len(y) != len(want) || y[0] != hashed(want[0]) {
			t.Errorf("by %d: an answer shares memory: %q, %x", k, b, y)
		}
	}
}

func FuzzShingles(f *testing.F) {
	for i, l := range lists(50) {
		f.Add(strings.Join(l, "|"), i%6)
	}
	f.Fuzz(func(t *testing.T, s string, k int) {
		if got, want := shingle.Hash(s), hashed(s); got != want {
			t.Fatalf("Hash(%q): %x, not %x", s, got, want)
		}
		if l := strings.Split(s, "|"); len(l) < 200 {
			check(t, l, k, expected(l, k)...)
		}
	})
}
