package word_test

import (
	"math"
	"slices"
	"strings"
	"testing"
	"unicode/utf8"

	"newsreel/api"
	"newsreel/fold"
	"newsreel/sample"
	"newsreel/word"
)

func check(t *testing.T, s string, want ...string) {
	t.Helper()
	if got := word.Words(s); !slices.Equal(got, want) {
		t.Errorf("Words(%.80q): %.400q, not %.400q", s, got, want)
	}
}

// inTables: whether a range of layer 2's tables holds r.
func inTables(r rune) bool {
	for _, g := range slices.Concat(fold.Letters(), fold.Digits()) {
		if g.From <= r && r <= g.To {
			return true
		}
	}
	return false
}

// expected: the words of s told another way: cut by the library, each folded whole, then shortened from its end.
func expected(s string) []string {
	l := strings.FieldsFunc(s, func(r rune) bool { return !inTables(r) })
	for i, w := range l {
		w = strings.Map(fold.Fold, w)
		for len(w) > 64 {
			_, n := utf8.DecodeLastRuneInString(w)
			w = w[:len(w)-n]
		}
		l[i] = w
	}
	return l[:min(len(l), 4096)]
}

func TestLimitsAreThoseOfTheChapter(t *testing.T) {
	if api.MaxWord != 64 || api.MaxWords != 4096 {
		t.Errorf("%d, %d", api.MaxWord, api.MaxWords)
	}
}

func TestSign(t *testing.T) {
	for _, r := range []rune{'a', 'z', 'A', 'Z', '0', '9', 0xaa, 0xb5, 0xc4, 0xdf, 0x100, 0x178, 0x17f, 0x391, 0x3c2, 0x430, 0x561, 0x5d0, 0x621, 0x660, 0x669, 0x904, 0x966, 0x96f, 0x1e00, 0x3041, 0x30fa, 0x4e00, 0x9fff, 0xac00, 0xd7a3, 0xff10, 0xff19, 0xff21, 0xff5a} {
		if !word.Sign(r) {
			t.Errorf("Sign(%x): false", r)
		}
	}
	for _, r := range []rune{0, '\t', '\n', ' ', '\'', '-', '_', '/', ':', '@', '[', '`', '{', 0x7f, 0xa0, 0xad, 0xb2, 0xd7, 0xf7, 0x130, 0x131, 0x180, 0x301, 0x640, 0x65f, 0x66a, 0x965, 0x970, 0x1e9e, 0x200d, 0x2019, 0x2126, 0x212a, 0x3000, 0xfeff, 0xff0f, 0xff3b, 0xfffd, 0x10400, 0x1d400, 0x1d7ce, 0x1f600, 0x20000, 0x10ffff} {
		if word.Sign(r) {
			t.Errorf("Sign(%x): true", r)
		}
	}
}

func TestSignOfAllRunes(t *testing.T) {
	signs := map[rune]bool{}
	for _, g := range slices.Concat(fold.Letters(), fold.Digits()) {
		for r := g.From; r <= g.To; r++ {
			signs[r] = true
		}
	}
	for r := rune(-0x11000); r <= 0x111000; r++ {
		if word.Sign(r) != signs[r] {
			t.Fatalf("Sign(%x): %v", r, !signs[r])
		}
	}
}

func TestSignOfNumbersThatAreNoRunes(t *testing.T) {
	for _, r := range []rune{math.MinInt32, math.MinInt32 + 'a', -0x10ffff, -'a', -'0', -1, 0xd800, 0xdbff, 0xdc00, 0xdfff, 0x110000, 0x110061, 1<<24 + 'a', 1<<30 + '0', math.MaxInt32 - 1, math.MaxInt32} {
		if word.Sign(r) {
			t.Errorf("Sign(%x): true", r)
		}
	}
}

func TestWords(t *testing.T) {
	check(t, "Don't PANIC", "don", "t", "panic")
	check(t, "Storm hits the coast", "storm", "hits", "the", "coast")
	check(t, "storm storm STORM", "storm", "storm", "storm")
	check(t, "B2B, 24/7: 3.14", "b2b", "24", "7", "3", "14")
	check(t, "snake_case well-known e-mail@example.com", "snake", "case", "well", "known", "e", "mail", "example", "com")
	check(t, "a\tb\nc\r\nd\x00e\u00a0f\u3000g\u2014h", "a", "b", "c", "d", "e", "f", "g", "h")
	check(t, "ÄRGER Straße ŁÓDŹ", "ärger", "straße", "łódź")
	check(t, "ΣΊΣΥΦΟΣ σίσυφος ПРИВЕТ Ёлка ԲԱՐԵՎ", "σίσυφοσ", "σίσυφος", "привет", "ёлка", "բարեվ")
	check(t, "新聞 ニュース 뉴스 אבג", "新聞", "ニュ", "ス", "뉴스", "אבג") // the long stroke is no letter
	check(t, "١٢٣ १२ ＡＢＣ１２ x٣", "١٢٣", "१२", "ａｂｃ１２", "x٣")
	check(t, "cafe\u0301s co\u00adop a\u200db", "cafe", "s", "co", "op", "a", "b")
}

func TestTextsOfNoWords(t *testing.T) {
	for _, s := range []string{"", " ", "\x00", "...", " \t\r\n ", "\u00d7\u00f7", "\u200d\u0301\ufeff", "\U0001f600\U0001f600", "\xff\xfe\x80", "\xef\xbf\xbd", strings.Repeat(" -", 10000)} {
		check(t, s)
	}
}

func TestWordsAtTheEndsOfATheText(t *testing.T) {
	check(t, "a", "a")
	check(t, "One", "one")
	check(t, " one", "one")
	check(t, "one ", "one")
	check(t, "!one!", "one")
	check(t, "one two", "one", "two")
	check(t, "\u2014one two\u2014", "one", "two")
	check(t, "ä-ö", "ä", "ö")
	check(t, "-ä-ö-", "ä", "ö")
	check(t, "\U0001f600x\U0001f600", "x")
}

func TestWordsBetweenBytesThatAreNoRunes(t *testing.T) {
	check(t, "a\xffb", "a", "b")
	check(t, "\xffa\x80", "a")
	check(t, "a\xe2\x82b", "a", "b")
	check(t, "a\xc3b", "a", "b")
	check(t, "a\xc3\xc3\xa4b", "a", "äb")
	check(t, "ab\xed\xa0\x80cd", "ab", "cd")
	check(t, "ab\xc1\xa1cd", "ab", "cd") // an a by more bytes than it needs
	check(t, "ab\xe0\x81\xa1cd\xf0\x80\x81\xa1", "ab", "cd")
	check(t, "a\xf0\x9f\x98b\xf4\x90\x80\x80c", "a", "b", "c")
	check(t, "a\xef\xbf\xbdb", "a", "b")
	check(t, "Aß\xc3", "aß")
	check(t, "\xa4\xc3\xa4\xa4", "ä")
}

func TestLongWords(t *testing.T) {
	for n := 60; n <= 70; n++ {
		s := strings.Repeat("a", n)
		check(t, s, s[:min(n, 64)])
		check(t, "x "+strings.ToUpper(s)+" y", "x", s[:min(n, 64)], "y")
		check(t, s+"b", (s + "b")[:min(n+1, 64)])
	}
	check(t, strings.Repeat("7", 66), strings.Repeat("7", 64))
	check(t, strings.Repeat("aB", 1000)+","+strings.Repeat("c", 64), strings.Repeat("ab", 32), strings.Repeat("c", 64))
	check(t, strings.Repeat("Ä", 32), strings.Repeat("ä", 32))
	check(t, strings.Repeat("Ä", 33), strings.Repeat("ä", 32))
	check(t, "a"+strings.Repeat("Ä", 33), "a"+strings.Repeat("ä", 31))
	check(t, strings.Repeat("新", 21), strings.Repeat("新", 21))
	check(t, strings.Repeat("新", 22), strings.Repeat("新", 21))
	check(t, strings.Repeat("Ａ", 22), strings.Repeat("ａ", 21))
	check(t, "a"+strings.Repeat("新", 22), "a"+strings.Repeat("新", 21))
	check(t, strings.Repeat("٣", 40), strings.Repeat("٣", 32))
}

func TestTheRuneThatNoLongerHasRoom(t *testing.T) {
	for _, x := range []struct{ sign, small string }{{"B", "b"}, {"Ä", "ä"}, {"Ÿ", "ÿ"}, {"Ḁ", "ḁ"}, {"新", "新"}, {"Ａ", "ａ"}, {"9", "9"}, {"٣", "٣"}, {"９", "９"}} {
		for n := 58; n <= 66; n++ {
			head := strings.Repeat("a", min(n, 64))
			want := head
			if n+len(x.small) <= 64 {
				want += x.small
			}
			check(t, strings.Repeat("A", n)+x.sign, want)
			check(t, strings.Repeat("A", n)+x.sign+" z", want, "z")
		}
	}
}

func TestNoLaterRuneTakesTheRoom(t *testing.T) {
	for _, x := range []struct {
		n    int
		sign string
	}{{63, "ä"}, {63, "新"}, {62, "新"}} {
		head := strings.Repeat("a", x.n)
		check(t, head+x.sign+"b", head)
		check(t, head+x.sign+"bb c", head, "c")
		check(t, head+x.sign+"ä", head)
	}
}

// A rune of four bytes is no sign: whatever room there is, it ends the word, and what follows is another one.
func TestRunesOfFourBytesEndAWord(t *testing.T) {
	for _, r := range []string{"\U00010000", "\U00010400", "\U0001d400", "\U0001d7ce", "\U0001f600", "\U00020000", "\U0010ffff"} {
		for n := 58; n <= 66; n++ {
			check(t, strings.Repeat("a", n)+r+"b", strings.Repeat("a", min(n, 64)), "b")
			check(t, strings.Repeat("a", n)+r, strings.Repeat("a", min(n, 64)))
		}
	}
}

// Of the signs none has a small form of more or fewer bytes; those runes that have one elsewhere are no signs, or their own small forms.
func TestSmallFormsOfOtherLengths(t *testing.T) {
	for r := rune(0); r <= utf8.MaxRune; r++ {
		if !word.Sign(r) {
			continue
		}
		check(t, string(r), string(fold.Fold(r)))
		if len(string(r)) != len(string(fold.Fold(r))) {
			t.Errorf("%x: a small form of another length", r)
		}
	}
	for _, s := range []string{"\u0130", "\u1e9e", "\u2126", "\u212a", "\u212b", "\u023a", "\u023e", "\u2c6f", "\U00010400"} {
		check(t, "x"+s+"y", "x", "y")
	}
	check(t, "x\u017fY", "x\u017fy")
	check(t, strings.Repeat("\u017f", 33), strings.Repeat("\u017f", 32))
	check(t, strings.Repeat("\u0178", 33), strings.Repeat("\u00ff", 32))
}

func TestManyWords(t *testing.T) {
	for n := 4094; n <= 4098; n++ {
		l := sample.Numbered(n)
		for _, s := range []string{strings.Join(l, " "), " " + strings.Join(l, ", "), strings.ToUpper(strings.Join(l, "\xff")) + ".", strings.Join(l, "\n") + strings.Repeat(" ", 100)} {
			check(t, s, l[:min(n, 4096)]...)
		}
	}
	check(t, strings.Repeat("a ", 10000), slices.Repeat([]string{"a"}, 4096)...)
	long := sample.Numbered(4095)
	check(t, strings.Join(long, " ")+" "+strings.Repeat("z", 100)+" y", append(long, strings.Repeat("z", 64))...)
}

// The bytes of a text are without bound: words behind the first 2^16 bytes are told, too.
func TestLongTexts(t *testing.T) {
	check(t, strings.Repeat(" ", 1<<16)+"a", "a")
	check(t, "a"+strings.Repeat("-\xff", 1<<19)+"b", "a", "b")
	check(t, strings.Repeat("ab", 1<<19)+" c", strings.Repeat("ab", 32), "c")
	check(t, strings.Repeat("\U0001f600", 1<<16)+"x", "x")
	check(t, strings.Repeat(strings.Repeat("x", 100)+" ", 5000), slices.Repeat([]string{strings.Repeat("x", 64)}, 4096)...)
}

func TestWordsAreThoseOfAnotherWay(t *testing.T) {
	for _, s := range texts(20000) {
		if got, want := word.Words(s), expected(s); !slices.Equal(got, want) {
			t.Fatalf("Words(%q): %q, not %q", s, got, want)
		}
	}
}

func TestJoin(t *testing.T) {
	for _, x := range []struct {
		l    []string
		want string
	}{
		{nil, ""},
		{[]string{}, ""},
		{[]string{""}, ""},
		{[]string{"a"}, "a"},
		{[]string{"", ""}, " "},
		{[]string{"", "a", "", "", "b", ""}, " a   b "},
		{[]string{"a", "b", "c"}, "a b c"},
		{[]string{"Don't", " PANIC "}, "Don't  PANIC "},
		{[]string{"\xff", "\xe2\x82", "\xac\x00", "ä"}, "\xff \xe2\x82 \xac\x00 ä"},
		{[]string{strings.Repeat("a", 100), "b"}, strings.Repeat("a", 100) + " b"},
		{slices.Repeat([]string{"x"}, 5000), strings.Repeat("x ", 4999) + "x"},
	} {
		handed := slices.Clone(x.l)
		if got := word.Join(handed); got != x.want {
			t.Errorf("Join(%.80q): %.80q, not %.80q", x.l, got, x.want)
		}
		if !slices.Equal(handed, x.l) {
			t.Errorf("Join changed %.80q to %.80q", x.l, handed)
		}
	}
}

func TestJoinLeavesSpareRoomAlone(t *testing.T) {
	l := []string{"a", "b", "kept", "too"}
	if got := word.Join(l[:2]); got != "a b" || l[2] != "kept" || l[3] != "too" {
		t.Errorf("%q, %q", got, l)
	}
}

func TestAnswersShareNothing(t *testing.T) {
	want := []string{"one", "two", "three"}
	a, b := word.Words("One two three"), word.Words("One two three")
	_ = append(a[:1], "x", "y", "z")
	clear(a[:cap(a)])
	if !slices.Equal(b, want) || !slices.Equal(word.Words("One two three"), want) {
		t.Error("two answers share memory")
	}
}

func TestWordsOfWordsAreThese(t *testing.T) {
	more := []string{strings.Repeat("Ä新", 40) + " " + strings.Repeat("a", 63) + "新b c", strings.Join(sample.Numbered(5000), "\xff"), strings.Repeat("新", 3000)}
	for _, s := range append(texts(5000), more...) {
		l := word.Words(s)
		if again := word.Words(word.Join(l)); !slices.Equal(again, l) {
			t.Fatalf("of %.80q: %.400q, then %.400q", s, l, again)
		}
		for _, w := range l {
			if w == "" || len(w) > 64 || !utf8.ValidString(w) || strings.Map(fold.Fold, w) != w {
				t.Fatalf("of %.80q: %q is no word", s, w)
			}
		}
	}
}

func TestWhatStandsBetweenIsOfNoAccount(t *testing.T) {
	between := []string{" ", "  ", "\n", "\x00", "'", ". ", "_", "\u00d7", "\u2019", "\u0301", "\ufffd", "\xff", "\xe2\x82", "\xc3", "\U0001f600", "\U00010400", "-\xf0\x9f\x98-", strings.Repeat("-", 5000)}
	words := []string{"don", "t", "panic", "ä", "新聞", "٣", strings.Repeat("a", 64)}
	for _, g := range between {
		s := strings.Join(words, g)
		for _, s := range []string{s, g + s, s + g, g + s + g, strings.ToUpper(s)} {
			check(t, s, words...)
		}
	}
}

// texts: n texts of words and of what stands between them, mixed.
func texts(n int) []string {
	return sample.Texts([]string{"a", "Z", "7", "panic", " ", " ", "\n", "'", "-", "\x00", "Ä", "\xc3", "\xa4", "Ÿ", "\u0130", "\u212a", "新", "Ａ", "\xe2\x82", "\xff", "\ufffd", "٣", "\U0001f600", "\U00010400", "\xf0\x9f", strings.Repeat("B", 30), strings.Repeat("ö", 16), strings.Repeat("新", 10), strings.Repeat("x", 61)}, n, 13)
}

func FuzzWords(f *testing.F) {
	for _, s := range texts(50) {
		f.Add(s)
	}
	f.Fuzz(func(t *testing.T, s string) {
		l := word.Words(s)
		if want := expected(s); !slices.Equal(l, want) {
			t.Fatalf("Words(%q): %q, not %q", s, l, want)
		}
		if again := word.Words(word.Join(l)); !slices.Equal(again, l) {
			t.Fatalf("of %q: %q, then %q", s, l, again)
		}
	})
}
