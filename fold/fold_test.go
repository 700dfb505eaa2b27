package fold_test

import (
	"math"
	"slices"
	"strconv"
	"strings"
	"testing"
	"unicode"

	"newsreel/api"
	"newsreel/fold"
)

// The tables in the chapter's own words.
const (
	digitsTold  = `30 to 39, 660 to 669, 966 to 96f, ff10 to ff19`
	lettersTold = `41 to 5a (32), 61 to 7a, aa, b5, ba, c0 to d6 (32), d8 to de (32), df to f6, f8 to ff, 100 to 12f P, 132 to 137 P, 138, 139 to 148 P, 149, 14a to 177 P, 178 (-121), 179 to 17e P, 17f, 386 (38), 388 to 38a (37), 38c (64), 38e to 38f (63), 390, 391 to 3a1 (32), 3a3 to 3ab (32), 3ac to 3ce, 400 to 40f (80), 410 to 42f (32), 430 to 45f, 460 to 481 P, 48a to 4bf P, 4d0 to 52f P, 531 to 556 (48), 561 to 586, 5d0 to 5ea, 621 to 63a, 641 to 64a, 904 to 939, 1e00 to 1e95 P, 1ea0 to 1eff P, 3041 to 3096, 30a1 to 30fa, 4e00 to 9fff, ac00 to d7a3, ff21 to ff3a (32), ff41 to ff5a`
)

func number(t *testing.T, s string, base int) rune {
	t.Helper()
	n, err := strconv.ParseInt(s, base, 32)
	if err != nil {
		t.Fatal(err)
	}
	return rune(n)
}

// table: the ranges that a told table has.
func table(t *testing.T, told string) []api.Range {
	t.Helper()
	var l []api.Range
	for _, row := range strings.Split(told, ", ") {
		w := strings.Fields(row)
		g := api.Range{From: number(t, w[0], 16), To: number(t, w[0], 16)}
		w = w[1:]
		for len(w) > 0 {
			switch {
			case w[0] == "to":
				g.To, w = number(t, w[1], 16), w[1:]
			case w[0] == "P":
				g.Pair = true
			default:
				g.Add = number(t, strings.Trim(w[0], "()"), 10)
			}
			w = w[1:]
		}
		l = append(l, g)
	}
	return l
}

// forms: each rune of the ranges, with its small form.
func forms(l []api.Range) map[rune]rune {
	m := map[rune]rune{}
	for _, g := range l {
		first := true
		for r := g.From; r <= g.To; r++ {
			m[r] = r + g.Add
			if g.Pair && first {
				m[r] = r + 1
			}
			first = !first
		}
	}
	return m
}

// notRunes: numbers that no rune has, with the ends of the type, and those that would be in a range, were they cut to fewer bits or freed of their sign.
func notRunes() []rune {
	return []rune{math.MinInt32, math.MinInt32 + 'A', math.MinInt32 + 1, -0x10ffff, -0xff21, -0x100, -'a', -'A', -'0', -121, -32, -1, 0xd800, 0xdbff, 0xdc00, 0xdfff, 0x110000, 0x110041, 1<<24 + 'A', 1<<30 + '0', math.MaxInt32 - 32, math.MaxInt32 - 1, math.MaxInt32}
}

// check: that the three calls tell of r what the chapter does.
func check(t *testing.T, r rune, letters, digits map[rune]rune) {
	t.Helper()
	small, letter := letters[r]
	if !letter {
		small = r
	}
	_, digit := digits[r]
	if fold.Letter(r) != letter || fold.Digit(r) != digit || fold.Fold(r) != small {
		t.Fatalf("%x: letter %v, digit %v, small form %x; not %v, %v, %x", r, fold.Letter(r), fold.Digit(r), fold.Fold(r), letter, digit, small)
	}
}

func TestTables(t *testing.T) {
	if got, want := fold.Letters(), table(t, lettersTold); !slices.Equal(got, want) {
		t.Errorf("Letters: %v, not %v", got, want)
	}
	if got, want := fold.Digits(), table(t, digitsTold); !slices.Equal(got, want) {
		t.Errorf("Digits: %v, not %v", got, want)
	}
}

func TestTablesRise(t *testing.T) {
	for _, l := range [][]api.Range{fold.Letters(), fold.Digits()} {
		last := rune(-1)
		for _, g := range l {
			if g.From <= last || g.To < g.From {
				t.Errorf("%x to %x, behind %x", g.From, g.To, last)
			}
			last = g.To
		}
	}
}

func TestTheEndsOfEachRange(t *testing.T) {
	letters, digits := table(t, lettersTold), table(t, digitsTold)
	small, digit := forms(letters), forms(digits)
	for _, g := range slices.Concat(letters, digits) {
		for _, r := range []rune{g.From - 2, g.From - 1, g.From, g.From + 1, (g.From + g.To) / 2, g.To - 1, g.To, g.To + 1, g.To + 2} {
			check(t, r, small, digit)
		}
	}
}

func TestAllRunes(t *testing.T) {
	small, digit := forms(table(t, lettersTold)), forms(table(t, digitsTold))
	for r := rune(-0x11000); r <= 0x111000; r++ {
		check(t, r, small, digit)
	}
}

func TestNumbersThatAreNoRunes(t *testing.T) {
	for _, r := range notRunes() {
		if fold.Letter(r) || fold.Digit(r) || fold.Fold(r) != r {
			t.Errorf("%x: letter %v, digit %v, small form %x", r, fold.Letter(r), fold.Digit(r), fold.Fold(r))
		}
	}
}

func TestLetter(t *testing.T) {
	for _, r := range []rune{'A', 'Z', 'a', 'z', 0xaa, 0xb5, 0xba, 0xc0, 0xd6, 0xd8, 0xde, 0xdf, 0xf6, 0xf8, 0xff, 0x12f, 0x138, 0x149, 0x178, 0x17f, 0x386, 0x38c, 0x390, 0x3ce, 0x481, 0x48a, 0x586, 0x5d0, 0x64a, 0x939, 0x1e95, 0x1ea0, 0x3096, 0x30fa, 0x4e00, 0x9fff, 0xac00, 0xd7a3, 0xff21, 0xff5a} {
		if !fold.Letter(r) || fold.Digit(r) {
			t.Errorf("%x: letter %v, digit %v", r, fold.Letter(r), fold.Digit(r))
		}
	}
}

func TestDigit(t *testing.T) {
	for _, r := range []rune{'0', '5', '9', 0x660, 0x669, 0x966, 0x96f, 0xff10, 0xff19} {
		if !fold.Digit(r) || fold.Letter(r) || fold.Fold(r) != r {
			t.Errorf("%x: digit %v, letter %v, small form %x", r, fold.Digit(r), fold.Letter(r), fold.Fold(r))
		}
	}
}

func TestNeitherLetterNorDigit(t *testing.T) {
	for _, r := range []rune{0, ' ', '\'', '/', ':', '@', '[', '`', '{', 0x7f, 0xa9, 0xab, 0xb4, 0xb6, 0xb9, 0xbb, 0xbf, 0xd7, 0xf7, 0x130, 0x131, 0x180, 0x385, 0x387, 0x38b, 0x38d, 0x3a2, 0x3cf, 0x3ff, 0x482, 0x489, 0x4c0, 0x4cf, 0x530, 0x557, 0x560, 0x587, 0x63b, 0x640, 0x65f, 0x66a, 0x903, 0x93a, 0x965, 0x970, 0x1dff, 0x1e96, 0x1e9f, 0x1f00, 0x3040, 0x3097, 0x30a0, 0x30fb, 0x4dff, 0xa000, 0xabff, 0xd7a4, 0xff0f, 0xff1a, 0xff20, 0xff3b, 0xff40, 0xff5b, 0xfffd, 0x10000, 0x1f600, 0x10ffff} {
		if fold.Letter(r) || fold.Digit(r) || fold.Fold(r) != r {
			t.Errorf("%x: letter %v, digit %v, small form %x", r, fold.Letter(r), fold.Digit(r), fold.Fold(r))
		}
	}
}

func TestFold(t *testing.T) {
	for _, x := range [][2]rune{
		{'A', 'a'}, {'Z', 'z'}, {0xc0, 0xe0}, {0xd6, 0xf6}, {0xde, 0xfe}, {0x178, 0xff}, {0x386, 0x3ac}, {0x388, 0x3ad}, {0x38a, 0x3af}, {0x38c, 0x3cc}, {0x38e, 0x3cd}, {0x38f, 0x3ce}, {0x391, 0x3b1}, {0x3a1, 0x3c1}, {0x3a3, 0x3c3}, {0x3ab, 0x3cb}, {0x400, 0x450}, {0x40f, 0x45f}, {0x410, 0x430}, {0x42f, 0x44f}, {0x531, 0x561}, {0x556, 0x586}, {0xff21, 0xff41}, {0xff3a, 0xff5a}, // by Add
		{0x100, 0x101}, {0x101, 0x101}, {0x102, 0x103}, {0x12e, 0x12f}, {0x12f, 0x12f}, {0x132, 0x133}, {0x137, 0x137}, {0x14a, 0x14b}, {0x177, 0x177}, {0x460, 0x461}, {0x481, 0x481}, {0x48a, 0x48b}, {0x4bf, 0x4bf}, {0x4d0, 0x4d1}, {0x52f, 0x52f}, {0x1e00, 0x1e01}, {0x1e95, 0x1e95}, {0x1ea0, 0x1ea1}, {0x1eff, 0x1eff}, // pairs
		{0x139, 0x13a}, {0x13a, 0x13a}, {0x13b, 0x13c}, {0x147, 0x148}, {0x148, 0x148}, {0x179, 0x17a}, {0x17a, 0x17a}, {0x17d, 0x17e}, {0x17e, 0x17e}, // pairs that begin with an odd one
		{'a', 'a'}, {'z', 'z'}, {0xaa, 0xaa}, {0xb5, 0xb5}, {0xdf, 0xdf}, {0xff, 0xff}, {0x138, 0x138}, {0x149, 0x149}, {0x17f, 0x17f}, {0x390, 0x390}, {0x3c2, 0x3c2}, {0x430, 0x430}, {0x5d0, 0x5d0}, {0x4e00, 0x4e00}, {0xd7a3, 0xd7a3}, {0xff41, 0xff41}, // small ones, and those that have none
		{0, 0}, {'0', '0'}, {'@', '@'}, {0xd7, 0xd7}, {0x130, 0x130}, {0x180, 0x180}, {0x1e9e, 0x1e9e}, {0x10400, 0x10400}, {0x10ffff, 0x10ffff}, // no letters
	} {
		if got := fold.Fold(x[0]); got != x[1] {
			t.Errorf("Fold(%x): %x, not %x", x[0], got, x[1])
		}
	}
}

func TestLettersAreThoseOfUnicode(t *testing.T) {
	for r := range rune(unicode.MaxRune + 1) {
		if fold.Letter(r) && (!unicode.IsLetter(r) || fold.Fold(r) != unicode.ToLower(r)) {
			t.Errorf("%x: small form %x, not %x", r, fold.Fold(r), unicode.ToLower(r))
		}
		if fold.Digit(r) && !unicode.IsDigit(r) {
			t.Errorf("%x: no digit", r)
		}
	}
}

func TestASmallFormIsItsOwn(t *testing.T) {
	one := func(r rune) {
		small := fold.Fold(r)
		if fold.Fold(small) != small || fold.Letter(small) != fold.Letter(r) || fold.Digit(small) != fold.Digit(r) {
			t.Fatalf("%x: small form %x, of which %x", r, small, fold.Fold(small))
		}
	}
	for r := rune(-0x11000); r <= 0x111000; r++ {
		one(r)
	}
	for _, r := range notRunes() {
		one(r)
	}
}

func TestAnswersShareNothing(t *testing.T) {
	for _, x := range []struct {
		call func() []api.Range
		told string
	}{{fold.Letters, lettersTold}, {fold.Digits, digitsTold}} {
		a, b := x.call(), x.call()
		_ = append(a, api.Range{From: 1, To: 2})
		clear(a[:cap(a)])
		_ = append(a[:0], api.Range{From: 0, To: math.MaxInt32, Add: 1})
		want := table(t, x.told)
		if !slices.Equal(b, want) || !slices.Equal(x.call(), want) {
			t.Error("two answers share memory")
		}
	}
	if !fold.Letter('a') || fold.Letter(0) || !fold.Digit('9') || fold.Digit('a') || fold.Fold('A') != 'a' || fold.Fold(1) != 1 {
		t.Error("what is done to an answer changes later ones")
	}
}
