package clean_test

import (
	"math"
	"regexp"
	"strconv"
	"strings"
	"testing"
	"unicode/utf8"

	"newsreel/clean"
	"newsreel/sample"
)

func checkText(t *testing.T, call string, f func(string) string, s, want string) {
	t.Helper()
	if got := f(s); got != want {
		t.Errorf("%s(%.80q): %.200q, not %.200q", call, s, got, want)
	}
}

func checkStrip(t *testing.T, s, want string) {
	t.Helper()
	checkText(t, "Strip", clean.Strip, s, want)
}

func checkEntities(t *testing.T, s, want string) {
	t.Helper()
	checkText(t, "Entities", clean.Entities, s, want)
}

func checkSpace(t *testing.T, s, want string) {
	t.Helper()
	checkText(t, "Space", clean.Space, s, want)
}

func checkClean(t *testing.T, s, want string) {
	t.Helper()
	checkText(t, "Clean", clean.Clean, s, want)
}

func checkChar(t *testing.T, r rune, want bool) {
	t.Helper()
	if got := clean.Char(r); got != want {
		t.Errorf("Char(%x): %v", r, got)
	}
}

func checkNamed(t *testing.T, s, want string, there bool) {
	t.Helper()
	if got, ok := clean.Named(s); got != want || ok != there {
		t.Errorf("Named(%.80q): %q, %v, not %q, %v", s, got, ok, want, there)
	}
}

// checkNoName: s stands for nothing.
func checkNoName(t *testing.T, s string) {
	t.Helper()
	checkNamed(t, s, "", false)
}

// checkPlain: whether s is plain; what is, is cleaned to itself.
func checkPlain(t *testing.T, s string, want bool) {
	t.Helper()
	if got := clean.Plain(s); got != want {
		t.Errorf("Plain(%.80q): %v", s, got)
	}
	if want {
		checkStrip(t, s, s)
		checkEntities(t, s, s)
		checkSpace(t, s, s)
		checkClean(t, s, s)
	}
}

// The layer told another way: by the library's patterns, each text as a whole.
var (
	markForm   = regexp.MustCompile(`<[a-zA-Z/!?][^>]*>`)
	nameForm   = regexp.MustCompile(`^(?:lt|gt|amp|quot|apos|#[0-9]+|#x[0-9a-fA-F]+)$`)
	entityForm = regexp.MustCompile(`&(?:lt|gt|amp|quot|apos|#[0-9]{1,10}|#x[0-9a-fA-F]{1,9});`)
	plainForm  = regexp.MustCompile(`^(?:[^<&\t-\r ]+(?: [^<&\t-\r ]+)*)?$`)
)

var plainNames = map[string]string{"lt": "<", "gt": ">", "amp": "&", "quot": "\"", "apos": "'"}

func plainStrip(s string) string { return markForm.ReplaceAllLiteralString(s, " ") }

func plainNamed(s string) (string, bool) {
	if !nameForm.MatchString(s) {
		return "", false
	}
	digits, isNumber := strings.CutPrefix(s, "#")
	if !isNumber {
		return plainNames[s], true
	}
	base := 10
	if digits[0] == 'x' {
		digits, base = digits[1:], 16
	}
	n, err := strconv.ParseUint(digits, base, 64)
	if err != nil || n > math.MaxInt32 || !plainChar(rune(n)) {
		return "", false
	}
	return string(rune(n)), true
}

// plainChar: by what the library takes for a rune, less the signs that a document may not have.
func plainChar(r rune) bool {
	return utf8.ValidRune(r) && r != 0xfffe && r != 0xffff && (r >= ' ' || strings.ContainsRune("\t\n\r", r))
}

func plainEntities(s string) string {
	return entityForm.ReplaceAllStringFunc(s, func(whole string) string {
		if text, ok := plainNamed(whole[1 : len(whole)-1]); ok {
			return text
		}
		return whole
	})
}

func plainSpace(s string) string {
	s = strings.ReplaceAll(s, "\xc2\xa0", " ")
	return strings.Join(strings.FieldsFunc(s, func(r rune) bool { return r >= '\t' && r <= '\r' || r == ' ' }), " ")
}

func plainPlain(s string) bool { return plainForm.MatchString(s) && !strings.Contains(s, "\xc2\xa0") }

// checkAll: each call on s against the other way.
func checkAll(t *testing.T, s string) {
	t.Helper()
	checkStrip(t, s, plainStrip(s))
	checkEntities(t, s, plainEntities(s))
	checkSpace(t, s, plainSpace(s))
	checkClean(t, s, plainSpace(plainEntities(plainStrip(s))))
	checkPlain(t, s, plainPlain(s))
	want, there := plainNamed(s)
	checkNamed(t, s, want, there)
}

func TestCharAtTheEndsOfEachStretch(t *testing.T) {
	for _, r := range []rune{9, 10, 13, 0x20, 0x21, 0xd7fe, 0xd7ff, 0xe000, 0xe001, 0xfffc, 0xfffd, 0x10000, 0x10001, 0x10fffe, 0x10ffff, 'a', 0x7f, 0x80, 0x9f, 0xa0, 0xfdd0, 0xfeff, 0x1fffe, 0x1f600} {
		checkChar(t, r, true)
	}
	for _, r := range []rune{0, 1, 8, 11, 12, 14, 15, 0x1e, 0x1f, 0xd800, 0xd801, 0xdbff, 0xdc00, 0xdffe, 0xdfff, 0xfffe, 0xffff, 0x110000, 0x110001} {
		checkChar(t, r, false)
	}
}

func TestCharOfNumbersThatAreNoRunes(t *testing.T) {
	for _, r := range []rune{math.MinInt32, math.MinInt32 + 1, math.MinInt32 + 'a', -0x110000, -0x10ffff, -0xd7ff, -'a', -0x20, -13, -10, -9, -2, -1, 1<<24 + 'a', 1<<30 + 'a', math.MaxInt32 - 1, math.MaxInt32} {
		checkChar(t, r, false)
	}
}

func TestCharOfAllRunes(t *testing.T) {
	for r := rune(-0x11000); r <= 0x111000; r++ {
		if clean.Char(r) != plainChar(r) {
			t.Fatalf("Char(%x): %v", r, !plainChar(r))
		}
	}
}

func TestTheFiveNames(t *testing.T) {
	checkNamed(t, "lt", "<", true)
	checkNamed(t, "gt", ">", true)
	checkNamed(t, "amp", "&", true)
	checkNamed(t, "quot", "\"", true)
	checkNamed(t, "apos", "'", true)
}

func TestNoNames(t *testing.T) {
	for s := range plainNames {
		for _, other := range []string{strings.ToUpper(s), strings.ToUpper(s[:1]) + s[1:], s[:1] + strings.ToUpper(s[1:]), s[:len(s)-1], s[1:], s + s, " " + s, s + " ", s + ";", "&" + s, "&" + s + ";", "#" + s, s + "\x00", "\xff" + s} {
			checkNoName(t, other)
		}
	}
	for _, s := range []string{"", " ", ";", "&", "nope", "nbsp", "copy", "eacute", "<", ">", "x", "x41", "41", "\x00", "\xff", "\xc2\xa0", "\u00e9"} {
		checkNoName(t, s)
	}
}

func TestNumbers(t *testing.T) {
	for s, want := range map[string]string{
		"#65": "A", "#x41": "A", "#97": "a", "#x61": "a", "#38": "&", "#x3c": "<", "#x3C": "<",
		"#9": "\t", "#10": "\n", "#13": "\r", "#32": " ", "#x9": "\t", "#xa": "\n", "#xD": "\r", "#x20": " ",
		"#127": "\x7f", "#128": "\xc2\x80", "#160": "\xc2\xa0", "#xe9": "\xc3\xa9", "#xE9": "\xc3\xa9", "#2047": "\xdf\xbf", "#2048": "\xe0\xa0\x80",
		"#8364": "\xe2\x82\xac", "#x20ac": "\xe2\x82\xac", "#x20AC": "\xe2\x82\xac", "#x20aC": "\xe2\x82\xac", "#x20Ac": "\xe2\x82\xac",
		"#xd7ff": "\xed\x9f\xbf", "#xe000": "\xee\x80\x80", "#xfffd": "\xef\xbf\xbd", "#65533": "\xef\xbf\xbd",
		"#x10000": "\xf0\x90\x80\x80", "#65536": "\xf0\x90\x80\x80", "#x1F600": "\xf0\x9f\x98\x80", "#1114111": "\xf4\x8f\xbf\xbf", "#x10ffff": "\xf4\x8f\xbf\xbf", "#x10FFFF": "\xf4\x8f\xbf\xbf",
		"#xabcd": "\uabcd", "#xABCD": "\uabcd", "#xefab": "\uefab", "#xEFAB": "\uefab", "#x1234": "\u1234", "#x5678": "\u5678", "#1234567": "", "#567890": "\U0008aa52",
	} {
		checkNamed(t, s, want, want != "")
	}
}

func TestZerosAheadCountNothing(t *testing.T) {
	for n := range 40 {
		zeros := strings.Repeat("0", n)
		checkNamed(t, "#"+zeros+"65", "A", true)
		checkNamed(t, "#x"+zeros+"41", "A", true)
		checkNamed(t, "#x"+zeros+"10fFfF", "\U0010ffff", true)
		checkNoName(t, "#"+zeros)
		checkNoName(t, "#x"+zeros)
		checkNoName(t, "#0"+zeros)
		checkNoName(t, "#x0"+zeros)
		checkNoName(t, "#"+zeros+"1114112")
	}
	checkNamed(t, "#"+strings.Repeat("0", 1<<16)+"65", "A", true)
	checkNamed(t, "#x"+strings.Repeat("0", 1<<16)+"41", "A", true)
}

func TestNamesThatAreNoNumbers(t *testing.T) {
	for _, s := range []string{
		"#", "#x", "#X", "##", "#x#", "#xx", "#X41", "#x#41", "##65", "#xx41", "x#65",
		"#+65", "#-65", "#x+41", "#x-41", "#-0", "#+9", "+65", "#65-", "#x41+",
		"# 65", "#65 ", " #65", "#x 41", "#x41 ", "#6 5", "#\n65", "#65\x00", "#\xc2\xa065",
		"#a", "#6a", "#a6", "#xg", "#x4g", "#xg4", "#xG", "#x4G", "#x/", "#x:", "#x@", "#x`", "#/", "#:", "#6:", "#6/", "#x4:", "#x4@", "#x4`", "#x4/",
		"#0x41", "#x0x41", "#0b1", "#0o7", "#1_0", "#x1_0", "#1e1", "#6.5", "#6,5", "#65;", "#x41;", "&#65;", "#x41h",
		"#\u0665", "#x\uff11", "#\xff", "#x\xff", "#65\xff",
	} {
		checkNoName(t, s)
	}
}

func TestNumbersOfRunesThatMayNotStand(t *testing.T) {
	for _, r := range []int64{0, 1, 8, 11, 12, 14, 31, 0xd800, 0xdbff, 0xdc00, 0xdfff, 0xfffe, 0xffff, 0x110000, 0x110001, 0x110041, 1<<24 + 65, 1<<31 - 1, 1 << 31, 1<<31 + 65, 1<<32 - 1, 1 << 32, 1<<32 + 9, 1<<32 + 65, 1<<48 + 65, math.MaxInt64 - 1, math.MaxInt64} {
		checkNoName(t, "#"+strconv.FormatInt(r, 10))
		checkNoName(t, "#x"+strconv.FormatInt(r, 16))
		checkNoName(t, "#x"+strings.ToUpper(strconv.FormatInt(r, 16)))
	}
}

func TestNumbersOfMoreDigitsThanAnyRune(t *testing.T) {
	for _, s := range []string{
		"#11141110", "#10000000000", "#4294967361", "#18446744073709551615", "#18446744073709551616", "#18446744073709551681", "#36893488147419103297", "#340282366920938463463374607431768211521",
		"#x10ffff0", "#x100000041", "#x10000000000000041", "#x100000000000000000000000000000041", "#xffffffffffffffff", "#xFFFFFFFFFFFFFFFFF",
	} {
		checkNoName(t, s)
	}
	for _, d := range "123456789" {
		checkNoName(t, "#"+strings.Repeat(string(d), 1<<16))
	}
	for _, d := range "123456789abcdefABCDEF" {
		checkNoName(t, "#x"+strings.Repeat(string(d), 1<<16))
	}
	for zeros := 7; zeros < 300; zeros++ { // none comes round to a rune's number
		checkNoName(t, "#1"+strings.Repeat("0", zeros)+"65")
		checkNoName(t, "#x1"+strings.Repeat("0", zeros)+"41")
	}
}

func TestNamedOfAllNumbers(t *testing.T) {
	for r := range 0x111000 {
		want, ok := "", plainChar(rune(r))
		if ok {
			want = string(rune(r))
		}
		for _, s := range []string{"#" + strconv.Itoa(r), "#x" + strconv.FormatInt(int64(r), 16)} {
			if got, there := clean.Named(s); got != want || there != ok {
				t.Fatalf("Named(%q): %q, %v, not %q, %v", s, got, there, want, ok)
			}
		}
	}
}

func TestNamedOfEachSign(t *testing.T) {
	for c := range 256 {
		sign := string([]byte{byte(c)})
		for _, s := range []string{sign, "#" + sign, "#x" + sign, "#6" + sign, "#x4" + sign, sign + "x41", sign + "65", "#" + sign + "41", sign + "t", "l" + sign, "lt" + sign} {
			want, there := plainNamed(s)
			checkNamed(t, s, want, there)
		}
	}
}

func TestStrip(t *testing.T) {
	checkStrip(t, "<p>Fish</p>", " Fish ")
	checkStrip(t, "a<br/>b", "a b")
	checkStrip(t, "a<br />b<HR>c", "a b c")
	checkStrip(t, "<a href=\"x\" title='y'>z</a>", " z ")
	checkStrip(t, "a<!-- note -->b<![CDATA[c]]>d<?xml?>e<!doctype html>f", "a b d e f")
	checkStrip(t, "<p><b><i>", "   ")
	checkStrip(t, "a <p> b", "a   b")
	checkStrip(t, "<p\n\n>\t<p\x00>", " \t ")
	checkStrip(t, "no marks & none &lt;p&gt;", "no marks & none &lt;p&gt;")
	checkStrip(t, "", "")
}

func TestStripByTheSignBehind(t *testing.T) {
	for c := range 256 {
		sign := string([]byte{byte(c)})
		want := "a<" + sign + "x>b"
		if strings.Contains("abcdefghijklmnopqrstuvwxyzABCDEFGHIJKLMNOPQRSTUVWXYZ/!?", sign) {
			want = "a b"
		}
		if c == '<' {
			want = "a< b" // the second one begins a mark
		}
		checkStrip(t, "a<"+sign+"x>b", want)
		if c != '>' {
			checkStrip(t, "a<"+sign+">b", strings.ReplaceAll(strings.ReplaceAll(want, "x", ""), "a< b", "a<<>b"))
		}
	}
}

func TestStripAtTheEnds(t *testing.T) {
	for _, s := range []string{"<", "a<", ">", "a>", "<>", "a<>b", "< p>", "<1>", "<-a>", "<=>", "<.>", "<\">", "<'>", "<#>", "<@>", "<[>", "<`>", "<{>", "<&>", "<;>", "<\xc3\xa4>", "<\xff>", "<\x00>", "<\na>", "<p", "a<p", "a<p b", "</", "<!", "<?", "><p", "p>", ">>", "a>b<c"} {
		checkStrip(t, s, s)
	}
	checkStrip(t, "<p>", " ")
	checkStrip(t, "<p><", " <")
	checkStrip(t, "<p>>", " >")
	checkStrip(t, "<p><p", " <p")
	checkStrip(t, "</><!><?>", "   ")
}

func TestStripWithASecondMarkWithin(t *testing.T) {
	checkStrip(t, "a<b<c>d", "a d") // up to the next >, whatever stands between
	checkStrip(t, "a<b<c>d>e", "a d>e")
	checkStrip(t, "a<<b>c", "a< c")
	checkStrip(t, "a< <b>c", "a<  c")
	checkStrip(t, "a<1<b>c", "a<1 c")
	checkStrip(t, "a<b><c>d", "a  d")
	checkStrip(t, "a<b c=\"1 > 0\">d", "a  0\">d")
	checkStrip(t, "a<!-- b > c --> d", "a  c --> d")
	checkStrip(t, "1 < 2 and 3 > 2", "1 < 2 and 3 > 2")
	checkStrip(t, "a>b<c>d<e", "a>b d<e")
	checkStrip(t, "a<b&gt;c>d", "a d") // names aren't told yet
}

func TestStripReadsNothingTwice(t *testing.T) {
	checkStrip(t, "<<p>p>", "< p>")
	checkStrip(t, "<<p><p>p>", "<  p>")
	checkStrip(t, "<</p>p>x", "< p>x")
}

func TestEntities(t *testing.T) {
	checkEntities(t, "Fish &amp; chips", "Fish & chips")
	checkEntities(t, "&lt;p&gt;", "<p>")
	checkEntities(t, "&quot;a&quot; &apos;b&apos;", "\"a\" 'b'")
	checkEntities(t, "&#8364;&#x20AC;&#x20ac;", "\u20ac\u20ac\u20ac")
	checkEntities(t, "&nope; stays", "&nope; stays")
	checkEntities(t, "&LT; &Lt; &nbsp; &#; &#x; &#X41; &#0; &#xd800; &#1114112;", "&LT; &Lt; &nbsp; &#; &#x; &#X41; &#0; &#xd800; &#1114112;")
	checkEntities(t, "a<b>c;d", "a<b>c;d")
	checkEntities(t, "", "")
}

func TestEntitiesByTheirLength(t *testing.T) {
	checkEntities(t, "&#0000000065;", "A") // 12 bytes behind
	checkEntities(t, "&#00000000065;", "&#00000000065;")
	checkEntities(t, "&#x000000041;", "A")
	checkEntities(t, "&#x0000000041;", "&#x0000000041;")
	checkEntities(t, "&#x00010fFfF;", "\U0010ffff")
	checkEntities(t, "&#x000010fFfF;", "&#x000010fFfF;")
	for n := range 30 {
		s := "&#" + strings.Repeat("0", n) + "9;"
		want := s
		if len(s) <= 13 {
			want = "\t"
		}
		checkEntities(t, s, want)
		checkEntities(t, "x"+s+"y", "x"+want+"y")
		checkEntities(t, s+s, want+want)
	}
}

func TestEntitiesAtTheEnds(t *testing.T) {
	for _, s := range []string{"&", "a&", "&;", "a&;b", "&&", "&&;", ";", ";&", "&amp", "&am", "a & b; c", "&#", "&#x", "&#65", "&#x41", "amp;", "&amp ;", "& amp;", "&amp,", "lt;gt;", "&amp\x00;", "&\xff;", "&\xc2\xa0;", "&abcdefghijk;", "&abcdefghijkl;", "&abcdefghijkl&;"} {
		checkEntities(t, s, s)
	}
	checkEntities(t, "&amp;", "&")
	checkEntities(t, "&amp;;", "&;")
	checkEntities(t, ";&amp;", ";&")
	checkEntities(t, "&amp;&", "&&")
	checkEntities(t, "&;amp;", "&;amp;")
	checkEntities(t, "&;lt;&lt;", "&;lt;<")
}

func TestEntitiesWithASecondSignWithin(t *testing.T) {
	checkEntities(t, "&&amp;", "&&")
	checkEntities(t, "&&lt;", "&<")
	checkEntities(t, "&a&lt;", "&a<")
	checkEntities(t, "&lt&lt;", "&lt<")
	checkEntities(t, "&amp&#65;", "&ampA")
	checkEntities(t, "&#6&#65;", "&#6A")
	checkEntities(t, "&abcdefghijklmnop&gt;", "&abcdefghijklmnop>")
	checkEntities(t, "&nope&lt;;", "&nope<;")
	checkEntities(t, strings.Repeat("&", 100)+"lt;", strings.Repeat("&", 99)+"<")
}

func TestEntitiesReadsNothingTwice(t *testing.T) {
	checkEntities(t, "&amp;lt;", "&lt;")
	checkEntities(t, "&amp;amp;", "&amp;")
	checkEntities(t, "&#38;lt;", "&lt;")
	checkEntities(t, "&#x26;#65;", "&#65;")
	checkEntities(t, "&amp;&amp;lt;", "&&lt;")
	checkEntities(t, "&amp;&lt;", "&<")
	checkEntities(t, "&amp;#38;amp;", "&#38;amp;")
	checkEntities(t, "&&amp;lt;", "&&lt;")
	checkEntities(t, "&#38&#59;lt;", "&#38;lt;") // the ; a name stands for ends none
}

func TestEntitiesOfEachSign(t *testing.T) {
	for c := range 256 {
		sign := string([]byte{byte(c)})
		for _, s := range []string{sign + "lt;", "&" + sign + "t;", "&lt" + sign, "&" + sign + ";", "&lt;" + sign, "&#" + sign + ";", "&#x4" + sign + ";", sign + "&lt;", "&" + sign + "lt;"} {
			checkEntities(t, s, plainEntities(s))
		}
	}
}

func TestSpaceOfEachBlank(t *testing.T) {
	for _, g := range []string{"\t", "\n", "\v", "\f", "\r", " ", "\xc2\xa0"} {
		checkSpace(t, g, "")
		checkSpace(t, g+g, "")
		checkSpace(t, "a"+g+"b", "a b")
		checkSpace(t, g+"a", "a")
		checkSpace(t, "a"+g, "a")
		checkSpace(t, g+"a"+g+g+"bc"+g, "a bc")
		checkSpace(t, "a "+g+" b", "a b")
		checkSpace(t, "a"+g+"\xc2\xa0\n"+g+"b", "a b")
		checkSpace(t, "\xc2"+g+"\xa0", "\xc2 \xa0")
		for _, s := range []string{"a" + g + "b", "a " + g + "b", "a" + g + " b", "\u4e00" + g + "\xff"} {
			checkPlain(t, s, g == " " && !strings.Contains(s, "  "))
		}
		for _, s := range []string{g, g + g, g + "a", "a" + g, "a b" + g, g + "a b", "a" + g + g + "b", "a" + g + "b" + g} {
			checkPlain(t, s, false)
		}
	}
}

func TestSpaceOfEachByte(t *testing.T) {
	for c := range 256 {
		sign := string([]byte{byte(c)})
		isBlank := c >= 9 && c <= 13 || c == 32
		if isBlank {
			checkSpace(t, "a"+sign+"b", "a b")
		} else {
			checkSpace(t, "a"+sign+"b", "a"+sign+"b")
			checkSpace(t, sign, sign)
			checkSpace(t, " "+sign+"  "+sign+" ", sign+" "+sign)
		}
		mayStand := c == 32 || !isBlank && c != '<' && c != '&'
		checkPlain(t, "a"+sign+"b", mayStand)
		checkPlain(t, sign, mayStand && c != 32)
		checkPlain(t, "a "+sign, mayStand && c != 32)
		checkPlain(t, sign+" a", mayStand && c != 32)
	}
}

func TestSpaceOfEachPairOfBytes(t *testing.T) {
	for a := range 256 {
		for b := range 256 {
			s := string([]byte{byte(a), byte(b)})
			for _, s := range []string{s, "x" + s + "y", "x " + s + " y"} {
				checkSpace(t, s, plainSpace(s))
				checkPlain(t, s, plainPlain(s))
			}
		}
	}
}

func TestHalvesOfABlank(t *testing.T) {
	for _, s := range []string{"\xc2", "\xa0", "\xa0\xc2", "a\xc2", "\xa0a", "\xa0a\xc2", "a\xc2b\xa0c", "\xc2\xc2", "\xa0\xa0", "\xc2\x9f", "\xc2\xa1", "\xc3\xa0", "\xc1\xa0", "\xc2 \xa0", "\xe2\x80\xa0", "\xe0\xa0\x80"} {
		checkSpace(t, s, s)
		checkPlain(t, s, true)
	}
	checkSpace(t, "\xc2\xc2\xa0\xa0", "\xc2 \xa0")
	checkSpace(t, "\xc2\xc2\xa0\xa0\xc2", "\xc2 \xa0\xc2")
	checkSpace(t, "\xe1\xc2\xa0a", "\xe1 a")
	checkSpace(t, "\xc2\xa0\xc2\xa0", "")
	checkSpace(t, "\xc2\t\xa0", "\xc2 \xa0")
	for _, s := range []string{"\xc2\xa0", "a\xc2\xa0b", "\xc2\xc2\xa0\xa0", "\xe1\xc2\xa0a", "a\xc2\xa0", "a \xc2\xa0"} {
		checkPlain(t, s, false)
	}
}

func TestOtherBlanksAreNone(t *testing.T) {
	for _, r := range []rune{0, 8, 14, 0x1c, 0x1f, 0x21, 0x7f, 0x85, 0x9f, 0xa1, 0x1680, 0x2000, 0x2003, 0x200a, 0x200b, 0x2028, 0x2029, 0x202f, 0x205f, 0x3000, 0xfeff} {
		s := string(r) + "a" + string(r) + string(r) + "b" + string(r)
		checkSpace(t, s, s)
		checkPlain(t, s, true)
	}
}

func TestPlain(t *testing.T) {
	for _, s := range []string{"", "a", "Fish", "Fish chips", "a b c d e", ">", ";", "a > b; c", "amp;", "'\"", "\x00", "\xff\xfe", "\u00e4\u65b0\U0001f600", "\xe2\x82", "- -"} {
		checkPlain(t, s, true)
	}
	for _, s := range []string{"<", "&", "a<", "a&", "<a", "&a", "a < b", "a & b", "<p>", "&amp;", "&nope;", " ", "  ", " a", "a ", "a  b", "a b  c", "a\tb", "a\nb", "a\n", "\na", "a \nb"} {
		checkPlain(t, s, false)
	}
}

func TestClean(t *testing.T) {
	checkClean(t, "<p>Fish &amp; <b>chips</b>", "Fish & chips")
	checkClean(t, "Fish & chips.", "Fish & chips.")
	checkClean(t, "&nope; stays.", "&nope; stays.")
	checkClean(t, "<p>Fish &amp; <b>chips</b>: Fish & chips. &nope; stays.", "Fish & chips : Fish & chips. &nope; stays.")
	checkClean(t, "a<br>b", "a b")
	checkClean(t, " <p> a </p>\n<p>\tb </p> ", "a b")
	checkClean(t, "", "")
	for _, s := range []string{"<p></p>", " <p> ", "&#32;", "&#160;&#xa0;", "<p>&#9;&#10;&#13;</p>\xc2\xa0", "<!-- a b -->"} {
		checkClean(t, s, "")
	}
}

func TestCleanInItsOrder(t *testing.T) {
	checkClean(t, "&lt;p&gt;a&lt;/p&gt;", "<p>a</p>") // marks go ahead of names
	checkClean(t, "a<b&gt;c>d", "a d")
	checkClean(t, "a&#32;&#32;b", "a b") // names ahead of blanks
	checkClean(t, "a&#160;b&#x9;&#xA;c", "a b c")
	checkClean(t, "&am<b>p;", "&am p;") // a mark's blank is there when names are told
	checkClean(t, "&<b>amp;", "& amp;")
	checkClean(t, "<&lt;p>a>", "<<p>a>")
	checkClean(t, "&amp;lt;", "&lt;")
	checkClean(t, "&amp;#32;", "&#32;")
	checkClean(t, "& amp;", "& amp;") // blanks that go don't make a name
	checkClean(t, "\xc2<p>\xa0", "\xc2 \xa0")
	checkClean(t, "&#\n65;", "&# 65;")
}

func TestWhatIsPlainIsCleanedToItself(t *testing.T) {
	for _, s := range texts(5000) {
		checkPlain(t, s, plainPlain(s))
		checkPlain(t, clean.Space(strings.NewReplacer("<", "", "&", "").Replace(s)), true)
	}
}

func TestTextsOfBytesThatAreNoRunes(t *testing.T) {
	for _, s := range []string{"\xff", "\x80", "\xc3", "\xe2\x82", "\xf0\x9f\x98", "\xed\xa0\x80", "\xc0\xbc", "\xf4\x90\x80\x80", "a\xffb\xfec", "\xc0\xa6lt;"} {
		checkStrip(t, s, s)
		checkEntities(t, s, s)
		checkSpace(t, s, s)
		checkClean(t, s, s)
		checkPlain(t, s, true)
		checkNoName(t, s)
		checkStrip(t, s+"<p\xff>"+s+"<\xff>", s+" "+s+"<\xff>")
		checkEntities(t, s+"&amp;"+s+"&\xff;", s+"&"+s+"&\xff;")
		checkSpace(t, s+" \n"+s+" ", s+" "+s)
		checkClean(t, s+"<p>&lt;"+s, s+" <"+s)
	}
}

func TestMixedTexts(t *testing.T) {
	for _, s := range texts(30000) {
		checkAll(t, s)
		if t.Failed() {
			return
		}
	}
}

func TestTextsOfOneSign(t *testing.T) {
	const n = 1 << 16
	for c := range 256 {
		s := strings.Repeat(string([]byte{byte(c)}), n)
		want := s
		if c >= 9 && c <= 13 || c == 32 {
			want = ""
		}
		checkStrip(t, s, s)
		checkEntities(t, s, s)
		checkSpace(t, s, want)
		checkClean(t, s, want)
		checkPlain(t, s, want != "" && c != '<' && c != '&')
		checkNoName(t, s)
		if t.Failed() {
			return
		}
	}
}

func TestLongTexts(t *testing.T) {
	const n = 1 << 16
	repeat := strings.Repeat
	checkStrip(t, repeat("<p", n), repeat("<p", n))
	checkStrip(t, repeat("<p", n)+">", " ")
	checkStrip(t, repeat("<p>", n), repeat(" ", n))
	checkStrip(t, repeat("<", n)+"p>", repeat("<", n-1)+" ")
	checkStrip(t, ">"+repeat("<p", n), ">"+repeat("<p", n))
	checkStrip(t, "<p>"+repeat("<1", n)+">", " "+repeat("<1", n)+">")
	checkEntities(t, repeat("&lt;", n), repeat("<", n))
	checkEntities(t, repeat("&", n)+";", repeat("&", n)+";")
	checkEntities(t, repeat("&#65", n)+";", repeat("&#65", n-1)+"A")
	checkEntities(t, "&"+repeat("0", n)+";", "&"+repeat("0", n)+";")
	checkSpace(t, repeat("a ", n), repeat("a ", n-1)+"a")
	checkSpace(t, repeat("\xc2\xa0", n), "")
	checkSpace(t, repeat("\xa0\xc2", n), "\xa0 \xc2")
	checkSpace(t, repeat("\xc2\xa0a\n", n), repeat("a ", n-1)+"a")
	checkClean(t, repeat("<p>a</p>&#32;", n), repeat("a ", n-1)+"a")
	checkPlain(t, repeat("a ", n)+"a", true)
	checkPlain(t, repeat("a ", n), false)
	checkPlain(t, repeat("a ", n)+" a", false)
}

// TestTimeGrowsAsTheText: texts so long that a search of the rest at each sign would not come to its end within a test.
func TestTimeGrowsAsTheText(t *testing.T) {
	const n = 1 << 22
	for _, s := range []string{strings.Repeat("<a", n), strings.Repeat("&a", n), ">" + strings.Repeat("</", n), strings.Repeat(" \xc2", n) + "a"} {
		if got := clean.Clean(s); len(got) < n {
			t.Errorf("%.10q: %d bytes", s, len(got))
		}
	}
}

func TestNothingIsKept(t *testing.T) {
	const s = "<p>Fish &amp; <b>chips</b> &nope;\xc2\xa0<i> &#x41;"
	want := clean.Clean(s)
	for _, other := range texts(100) {
		clean.Clean(other)
		clean.Plain(other)
		clean.Named(other)
		checkClean(t, s, want)
	}
}

// texts: n texts of marks, names and blanks, whole and in pieces, mixed.
func texts(n int) []string {
	return sample.Texts([]string{"a", "b c", "Z", "p", "<", ">", "<p", "</p>", "<!", "<?x>", "/", "&", ";", "&amp", "&amp;", "&lt;", "gt;", "quot", "apos;", "#", "x", "&#", "&#x", "65", "20aC", "0", "00000", "000000000", "d800", "&#65;", "&#x3c;", "&#0;", "&#32;", "&nope;",
		" ", " ", "\t", "\n", "\r", "\v", "\f", "\x0e", "\xc2", "\xa0", "\xc2\xa0", "\xff", "\xe2\x82", "\u00e4", "\u3000", "\u65b0", "\U0001f600"}, n, 13)
}

func FuzzClean(f *testing.F) {
	for _, s := range texts(50) {
		f.Add(s)
	}
	f.Fuzz(func(t *testing.T, s string) {
		checkAll(t, s)
		checkPlain(t, clean.Space(s), !strings.ContainsAny(s, "<&"))
	})
}
