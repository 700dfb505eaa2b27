package lex_test

import (
	"errors"
	"math"
	"regexp"
	"strconv"
	"strings"
	"testing"
	"unicode/utf8"

	"newsreel/api"
	"newsreel/clean"
	"newsreel/lex"
	"newsreel/sample"
)

// deep: a depth that none of the documents comes to that aren't about depths.
const deep = 1 << 20

// The tokens of which answers are made.
var (
	start, empty, end, text, attr = sample.Start, sample.Empty, sample.End, sample.Text, sample.Attr
	sameTokens                    = sample.SameTokens
)

// height: how many of the elements are in one another at most, the outermost one among them.
func height(l []api.Token) int {
	open, most := 0, 0
	for _, x := range l {
		switch x.Kind {
		case api.TokStart:
			open++
			most = max(most, open)
		case api.TokEmpty:
			most = max(most, open+1)
		case api.TokEnd:
			open--
		}
	}
	return most
}

// checkTree: the tokens make a tree, none has a field that its kind gives no meaning, and no text is empty or stands beside another one.
func checkTree(t *testing.T, s string, l []api.Token) {
	t.Helper()
	var open []string
	for i, x := range l {
		good := i == 0 || len(open) > 0
		switch x.Kind {
		case api.TokStart:
			good = good && lex.Name(x.Name) && x.Text == ""
			open = append(open, x.Name)
		case api.TokEmpty:
			good = good && lex.Name(x.Name) && x.Text == ""
		case api.TokEnd:
			good = good && len(open) > 0 && x.Name == open[len(open)-1] && len(x.Attrs) == 0 && x.Text == ""
			open = open[:max(len(open)-1, 0)]
		case api.TokText:
			good = good && i > 0 && x.Text != "" && x.Name == "" && len(x.Attrs) == 0 && l[i-1].Kind != api.TokText
		default:
			good = false
		}
		if !good {
			t.Errorf("Tokens(%.200q): token %d of %v", s, i, l)
			return
		}
	}
	if len(l) == 0 || len(open) > 0 {
		t.Errorf("Tokens(%.200q): open at the end: %.200q", s, open)
	}
}

// checkTokens: s has just these tokens, at each depth that they need or that is greater; at lesser ones it is too deep.
func checkTokens(t *testing.T, s string, want ...api.Token) {
	t.Helper()
	least := height(want)
	for _, depth := range []int{least, least + 1, least + 2, least + 64, deep, math.MaxInt - 1, math.MaxInt} {
		got, err := lex.Tokens(s, depth)
		if err != nil || !sameTokens(got, want) {
			t.Errorf("Tokens(%.200q, %d): %v, %v, not %v", s, depth, got, err, want)
			return
		}
		checkTree(t, s, got)
	}
	for _, depth := range []int{math.MinInt, -1, 0, least / 2, least - 1} {
		checkDeep(t, s, depth)
	}
}

// checkFault: Tokens answers an api.Fault of that Code and of no other one, at a place of s, and no tokens.
func checkFault(t *testing.T, s string, depth int, want api.Code) {
	t.Helper()
	got, err := lex.Tokens(s, depth)
	if len(got) != 0 || err == nil {
		t.Errorf("Tokens(%.200q, %d): %v, %v, not %v", s, depth, got, err, want)
		return
	}
	at, amiss := sample.Fault(err, want)
	if amiss != "" || at < 0 || at > len(s) {
		t.Errorf("Tokens(%.200q, %d): %v, %s, at %d of %d bytes", s, depth, err, amiss, at, len(s))
	}
}

// checkDeep: s is too deep by depth.
func checkDeep(t *testing.T, s string, depth int) {
	t.Helper()
	checkFault(t, s, depth, api.ErrDepth)
}

// checkSyntax: s is no document, by any great depth.
func checkSyntax(t *testing.T, s string) {
	t.Helper()
	for _, depth := range []int{100, deep, math.MaxInt} {
		checkFault(t, s, depth, api.ErrSyntax)
	}
}

// checkNone: s is no document, and no element begins ahead of its fault: no depth is too small.
func checkNone(t *testing.T, s string) {
	t.Helper()
	checkSyntax(t, s)
	for _, depth := range []int{math.MinInt, -1, 0, 1} {
		checkFault(t, s, depth, api.ErrSyntax)
	}
}

// checkAlike: s is read as the machine does it, at that depth.
func checkAlike(t *testing.T, s string, depth int) {
	t.Helper()
	want, code := plainTokens(s, depth)
	if code != api.OK {
		checkFault(t, s, depth, code)
		return
	}
	got, err := lex.Tokens(s, depth)
	if err != nil || !sameTokens(got, want) {
		t.Errorf("Tokens(%.200q, %d): %v, %v, not %v", s, depth, got, err, want)
		return
	}
	checkTree(t, s, got)
	if got, err := lex.Tokens(written(want), depth); err != nil || !sameTokens(got, want) {
		t.Errorf("Tokens(%.200q, %d): written again: %v, %v", s, depth, got, err)
	}
}

// checkAtAll: s is read as the machine does it, at each depth up to 4, and at a great one.
func checkAtAll(t *testing.T, s string) {
	t.Helper()
	for depth := range 5 {
		checkAlike(t, s, depth)
	}
	checkAlike(t, s, deep)
}

// mayStand: whether r, a number from 0 to 10ffff, is a rune that may stand in a document.
func mayStand(r rune) bool {
	_, ok := standing(string(r))
	return ok && utf8.ValidRune(r)
}

var hidden = strings.NewReplacer("&", "&amp;", "<", "&lt;", `"`, "&quot;")

// written: a document of these tokens.
func written(l []api.Token) string {
	var b strings.Builder
	for _, x := range l {
		switch x.Kind {
		case api.TokText:
			b.WriteString(hidden.Replace(x.Text))
			continue
		case api.TokEnd:
			b.WriteString("</" + x.Name + ">")
			continue
		}
		b.WriteString("<" + x.Name)
		for _, a := range x.Attrs {
			b.WriteString(" " + a.Name + `="` + hidden.Replace(a.Value) + `"`)
		}
		if x.Kind == api.TokEmpty {
			b.WriteString("/")
		}
		b.WriteString(">")
	}
	return b.String()
}

// nameForm: what a name is, but for its length.
var nameForm = regexp.MustCompile(`^[a-zA-Z_:][a-zA-Z_:0-9.-]*$`)

func checkName(t *testing.T, s string, want bool) {
	t.Helper()
	if got := lex.Name(s); got != want {
		t.Errorf("Name(%.200q): %v", s, got)
	}
}

// sign: a text of one byte.
func sign(c int) string { return string([]byte{byte(c)}) }

func TestName(t *testing.T) {
	for _, s := range []string{"a", "Z", "_", ":", "rss", "atom:link", "content:encoded", "a-b", "a.b", "a1", "_1", ":-", "::", "a--", "a..", "xml", "A9._:-"} {
		checkName(t, s, true)
	}
	for _, s := range []string{"", "1", "-", ".", "1a", "-a", ".a", " ", " a", "a ", "a b", "a\n", "\ta", "a=", "a/", "/a", "<a", "a>", "a&", "&lt;", "a\x00", "\x00", "a;", "a\"", "\u00e4", "a\u00e4", "a\xff", "\xff", "a\u00b7", "\u2160"} {
		checkName(t, s, false)
	}
}

func TestNameByItsLength(t *testing.T) {
	for n := range 200 {
		checkName(t, strings.Repeat("a", n), n >= 1 && n <= 64)
		checkName(t, strings.Repeat("_", n), n >= 1 && n <= 64)
		checkName(t, "a"+strings.Repeat("-", n), n <= 63)
		checkName(t, strings.Repeat("1", n), false)
	}
	checkName(t, strings.Repeat("a", 63)+" ", false)
	checkName(t, strings.Repeat("a", 64)+" ", false)
	checkName(t, strings.Repeat("\u00e4", 32), false)
	checkName(t, strings.Repeat("a", 1<<16), false)
}

func TestNameOfEachByte(t *testing.T) {
	for c := range 256 {
		letter, inName := isOf(byte(c), plainLetters), isOf(byte(c), plainSigns)
		checkName(t, sign(c), letter)
		checkName(t, sign(c)+"a", letter)
		checkName(t, sign(c)+strings.Repeat("a", 63), letter)
		checkName(t, sign(c)+strings.Repeat("a", 64), false)
		checkName(t, "a"+sign(c), inName)
		checkName(t, "_"+sign(c)+"b", inName)
		checkName(t, strings.Repeat("a", 63)+sign(c), inName)
		checkName(t, strings.Repeat("a", 64)+sign(c), false)
	}
}

func TestTheChaptersExamples(t *testing.T) {
	checkSyntax(t, "<a><b></a>")
	checkDeep(t, "<a><b><c x", 2)
	checkSyntax(t, "<a><b><c x")
}

func TestDocuments(t *testing.T) {
	checkTokens(t, "<a/>", empty("a"))
	checkTokens(t, "<a></a>", start("a"), end("a"))
	checkTokens(t, "<a>b</a>", start("a"), text("b"), end("a"))
	checkTokens(t, "<a><b/></a>", start("a"), empty("b"), end("a"))
	checkTokens(t, "<a>1<b>2</b>3<c/>4</a>", start("a"), text("1"), start("b"), text("2"), end("b"), text("3"), empty("c"), text("4"), end("a"))
	checkTokens(t, "<a><a><a/></a><a></a></a>", start("a"), start("a"), empty("a"), end("a"), start("a"), end("a"), end("a"))
	checkTokens(t, `<a x="1" y='2'><b z="3"/></a>`, start("a", attr("x", "1"), attr("y", "2")), empty("b", attr("z", "3")), end("a"))
	checkTokens(t, "<a> <b/>\n</a>", start("a"), text(" "), empty("b"), text("\n"), end("a"))
	checkTokens(t, "<a>a > b ]]> \"c\" 'd' = / ; # -- --> ?></a>", start("a"), text("a > b ]]> \"c\" 'd' = / ; # -- --> ?>"), end("a"))
	checkTokens(t, "<?xml version=\"1.0\"?>\n<rss version=\"2.0\"><channel><title>newsreel</title>\n<item><guid>1</guid></item>\n</channel></rss>\n",
		start("rss", attr("version", "2.0")), start("channel"), start("title"), text("newsreel"), end("title"), text("\n"),
		start("item"), start("guid"), text("1"), end("guid"), end("item"), text("\n"), end("channel"), end("rss"))
	checkTokens(t, "<feed xmlns=\"http://www.w3.org/2005/Atom\"><entry><link href=\"x?a&amp;b\"/></entry></feed>",
		start("feed", attr("xmlns", "http://www.w3.org/2005/Atom")), start("entry"), empty("link", attr("href", "x?a&b")), end("entry"), end("feed"))
}

func TestTextsWithoutAnElement(t *testing.T) {
	for _, s := range []string{"", " ", "\n", " \t\r\n ", "a", "a b", "&lt;", "&", ";", ">", "<", "<!", "<?", "</", "<!-", "<!--", "<!-- -->", " <!----> ", "<>", "< >", "</>", "</a>", "<1/>", "<-/>", "<./>", "<?a?>", "<!a>", "<!doctype a>", "<!DOCTYPE a><a/>", "<![CDATA[]]>", "<![CDATA[a]]>", "\x00", "\xff", "\ufeff"} {
		checkNone(t, s)
	}
}

func TestTheMarkAheadOfAll(t *testing.T) {
	const mark = "\xef\xbb\xbf"
	checkTokens(t, mark+"<a/>", empty("a"))
	checkTokens(t, mark+" \n<a/>", empty("a"))
	checkTokens(t, mark+"<?xml ?><a/>", empty("a"))
	checkTokens(t, mark+"<!--b--><a/>", empty("a"))
	for _, s := range []string{mark, mark + mark, mark + mark + "<a/>", " " + mark + "<a/>", "\n" + mark, mark + " " + mark + "<a/>", mark + "a", "<?xml ?>" + mark + "<a/>", "<!---->" + mark + "<a/>", "\xef", "\xef\xbb", "\xef<a/>", "\xef\xbb<a/>", "\xbb\xbf<a/>", "\xbf<a/>", "\xef\xbf\xbb<a/>", "\xef\xbb\xbe<a/>", "\xff\xfe<a/>", "\xfe\xff<a/>", "\xef\xbb \xbf<a/>"} {
		checkNone(t, s)
	}
	checkSyntax(t, "<a/>"+mark)
	checkSyntax(t, "<"+mark+"a/>")
	checkSyntax(t, "<a"+mark+"/>")
	checkSyntax(t, "<a "+mark+"/>")
	checkTokens(t, "<a b='"+mark+"'>"+mark+"<!--"+mark+"--></a>", start("a", attr("b", mark)), text(mark), end("a")) // it is a rune as others are
}

func TestTheDeclaration(t *testing.T) {
	for _, s := range []string{"<?xml ?>", "<?xml version=\"1.0\"?>", "<?xml\tversion='1.0' encoding='UTF-8' ?>", "<?xml\n?>", "<?xml\r?>", "<?xml  ?>", "<?xml ??>", "<?xml ???>", "<?xml ? >?>", "<?xml >?>", "<?xml <a>?>", "<?xml &?>", "<?xml \"?>", "<?xml <?xml ?>", "<?xml <!--?>", "<?xml \u00e4\u65b0\U0001f600\ufffd?>"} {
		checkTokens(t, s+"<a/>", empty("a"))
		checkTokens(t, s+" <!-- b -->\n<a>c</a> ", start("a"), text("c"), end("a"))
		checkNone(t, s)
		checkNone(t, s+s+"<a/>")
		checkNone(t, " "+s+"<a/>")
		checkNone(t, "\n"+s+"<a/>")
		checkNone(t, "<!---->"+s+"<a/>")
		checkSyntax(t, "<a>"+s+"</a>")
		checkSyntax(t, "<a/>"+s)
	}
	for _, s := range []string{"<?xml", "<?xml ", "<?xml ?", "<?xml version='1.0'", "<?xml >", "<?xml ? >", "<?xml a><a/>", "<?xml <a/>", "<?xml ><a/>?"} {
		checkNone(t, s)
	}
	for _, s := range []string{"<?xml?>", "<?xml??>", "<?xml>", "<?xm ?>", "<?xmlx ?>", "<?xml-stylesheet ?>", "<?xml/ ?>", "<?XML ?>", "<?Xml ?>", "<? xml ?>", "<?a ?>", "< ?xml ?>", "<!xml ?>", "<?xml\v?>", "<?xml\f?>", "<?xml\u00a0?>", "<?\nxml ?>"} {
		checkNone(t, s+"<a/>")
		checkSyntax(t, "<a>"+s+"</a>")
	}
	checkNone(t, "?xml ?><a/>")
	checkNone(t, "<?xml ?>?><a/>")
	checkNone(t, "<?xml ?> ?><a/>") // the first ?> ends it
}

func TestWhereBlanksMayStand(t *testing.T) {
	for c := range 256 {
		s, isBlank := sign(c), isOf(byte(c), plainBlanks)
		for _, at := range []struct{ ahead, behind string }{
			{"", "<a b='1'></a>"}, {"<?xml ?>", "<a b='1'></a>"}, {"<!---->", "<a b='1'></a>"}, {"\xef\xbb\xbf", "<a b='1'></a>"}, {"<?xml", "?><a b='1'></a>"},
			{"<a b='1'></a>", ""}, {"<a b='1'></a>", "<!---->"}, {"<a b='1'></a><!---->", ""},
			{"<a ", "b='1'></a>"}, {"<a", " b='1'></a>"}, {"<a", "b='1'></a>"}, {"<a b", "='1'></a>"}, {"<a b=", "'1'></a>"}, {"<a b='1'", "></a>"}, {"<a b='1'></a", ">"},
		} {
			for _, s := range []string{s, s + s, " " + s, s + "\n", s + " \t\r\n" + s} {
				doc := at.ahead + s + at.behind
				if isBlank {
					checkTokens(t, doc, start("a", attr("b", "1")), end("a"))
				} else {
					checkAtAll(t, doc)
				}
			}
		}
		if isBlank {
			checkTokens(t, "<a"+s+"/>", empty("a"))
			checkTokens(t, "<a b='1'"+s+"/>", empty("a", attr("b", "1")))
			checkTokens(t, "<a b='1'"+s+"c='2'/>", empty("a", attr("b", "1"), attr("c", "2")))
			checkTokens(t, "<a b"+s+"="+s+"'1'"+s+"c"+s+s+"="+s+s+"\"2\""+s+s+">"+s+"</a"+s+">"+s, start("a", attr("b", "1"), attr("c", "2")), text(s), end("a"))
		}
	}
}

func TestWhereNoBlanksMayStand(t *testing.T) {
	for _, s := range []string{" ", "\t", "\n", "\r", "  "} {
		for _, doc := range []string{"<" + s + "a/>", "<" + s + "a></a>", "<a/" + s + ">", "<a><" + s + "/a>", "<a></" + s + "a>", "<a></a>" + s + "<a/>", "<" + s + "!----><a/>", "<!" + s + "----><a/>", "<!-" + s + "-><a/>", "<!--" + "-" + s + "-><a/>", "<!----" + s + "><a/>",
			"<a><" + s + "![CDATA[]]></a>", "<a><!" + s + "[CDATA[]]></a>", "<a><![" + s + "CDATA[]]></a>", "<a><![CDATA" + s + "[]]></a>", "<a><![CDATA[]" + s + "]></a>", "<a><![CDATA[]]" + s + "></a>", "<a>&" + s + "lt;</a>", "<a>&lt" + s + ";</a>", "<a>&l" + s + "t;</a>", "<a>&" + s + ";</a>", "<a b=\"&" + s + "lt;\"/>",
			"<a b" + s + "c='1'/>", "<a b=1" + s + "/>", "<a b='1'" + s + "=/>", "<a b=" + s + "=/>"} {
			checkSyntax(t, doc)
		}
	}
	for _, s := range []string{"\v", "\f", "\x1f", "!", "\x08", "\x0e", "\u00a0", "\u0085", "\u2028", "\u3000", "\u200b", "\ufeff"} { // no blanks here
		for _, doc := range []string{"<!---->" + s + " <a/>", " " + s + "<a/>", "<a/>" + s, "<a" + s + "/>", "<a " + s + "/>", "<a" + s + "b='1'/>", "<a b" + s + "='1'/>", "<a b=" + s + "'1'/>", "<a b='1'" + s + "/>", "<a b='1'" + s + "c='1'/>", "<a></a" + s + ">"} {
			checkSyntax(t, doc)
		}
	}
}

func TestComments(t *testing.T) {
	for _, s := range []string{"", " ", "a", "-", "a-", " a ", " a - b ", "-a", "- -", "a -", ">", "->", "->a", "->-", "!", "!-", "<", "<a>", "</a>", "<a", "&", "&nope;", "&#0;", "]]>", "<![CDATA[", "?>", "<?xml ?>", "\"", "'", "a\nb", "\u00e4\u65b0\U0001f600\ufffd", strings.Repeat("- ", 50)} {
		whole := "<!--" + s + "-->"
		checkTokens(t, whole+"<a/>", empty("a"))
		checkTokens(t, "<a/>"+whole, empty("a"))
		checkTokens(t, "<a>"+whole+"</a>", start("a"), end("a"))
		checkTokens(t, "<a>b"+whole+"<c/></a>", start("a"), text("b"), empty("c"), end("a"))
		checkTokens(t, " "+whole+whole+"\n<a>"+whole+" "+whole+"</a>"+whole+" "+whole, start("a"), text(" "), end("a"))
	}
}

func TestCommentsThatAreNone(t *testing.T) {
	for _, s := range []string{"--", "a--", "--a", "a--b", " -- ", "---", "----", "a---b", "--><!-- -- ", "-- >", "- --", "a--!", "--\n"} {
		checkNone(t, "<!--"+s+"--><a/>")
		checkSyntax(t, "<a/><!--"+s+"-->")
		checkSyntax(t, "<a><!--"+s+"--></a>")
	}
	for _, s := range []string{"<!--", "<!-- ", "<!--a", "<!---", "<!-->", "<!--->", "<!--a-", "<!--a--", "<!--a->", "<!--a- ->", "<!--a-- >", "<!-- <a/> ", "<!-a-->", "<!- ->", "<!->", "<!a-->", "<--a-->", "<-- -->", "<!-", "<!", "<! -- -->", "<!-- a -- >", "<!--a]]>", "<!--a?>", "<!--a/>"} {
		checkNone(t, s)
		checkNone(t, s+"<a/>")
		checkSyntax(t, "<a>"+s)
		checkSyntax(t, "<a>"+s+"</a>")
		checkSyntax(t, "<a/>"+s)
	}
	checkSyntax(t, "<a <!---->/>")
	checkSyntax(t, "<a<!---->/>")
	checkSyntax(t, "<a><!----></a <!---->>")
	checkSyntax(t, "<a b=<!---->'1'/>")
	checkSyntax(t, "<a b='<!---->'/>")
	checkNone(t, "<!-- <!-- --> --><a/>") // the first --> ends it
	checkNone(t, "<!----> --><a/>")
	checkTokens(t, "<a><!-- --> --></a>", start("a"), text(" -->"), end("a"))
}

// TestWhereACommentEnds: the text up to the first --> may end with one -, but has no two of them.
func TestWhereACommentEnds(t *testing.T) {
	for n := range 12 {
		s := "<!--" + strings.Repeat("-", n) + "><a/>"
		if n == 2 || n == 3 {
			checkTokens(t, s, empty("a"))
		} else {
			checkNone(t, s)
		}
		s = "<!--a" + strings.Repeat("-", n) + "><a/>"
		if n == 2 || n == 3 {
			checkTokens(t, s, empty("a"))
		} else {
			checkNone(t, s)
		}
	}
}

func TestElements(t *testing.T) {
	checkTokens(t, "<a ></a >", start("a"), end("a"))
	checkTokens(t, "<a\n\t\r ></a\n\t\r >", start("a"), end("a"))
	checkTokens(t, "<a />", empty("a"))
	checkTokens(t, "<a\r\n/>", empty("a"))
	checkTokens(t, "<A><a/></A>", start("A"), empty("a"), end("A"))
	checkTokens(t, "<_:9.-></_:9.->", start("_:9.-"), end("_:9.-"))
	for _, s := range []string{
		"<a>", "<a", "<", "<a/", "<a /", "<a ", "<a><b>", "<a><b/>", "<a></", "<a></a", "<a></a ", "<a><b></b>", "<a>b", "<a>b<", // one end alone
		"<a></b>", "<a></A>", "<A></a>", "<a></ab>", "<ab></a>", "<a></aa>", "<a></_>", "<a:b></b>", "<a:b></a>", "<a></a:b>", "<a></>", "<a></1>", "<a></a-></a>", // an end of another name
		"<a><b></a></b>", "<a><b></a>", "<a><b><c></b></c></a>", "<a></b></a>", "<a><b/></b></a>", "<a/></a>", "<a></a></a>", "</a><a>",
		"< a/>", "<a></ a>", "<a>< /a>", "<a / >", "<a/ >", "<a //>", "<a/b>", "<a/ b='1'>", "<a></a/>", "<a></a b>", "<a></a b='1'>", "<a></a <b/>>", "<a></a</a>", "<a></a></a",
		"<>", "<a><></></a>", "<a></></a>", "<1a/>", "<-a/>", "<.a/>", "<a*/>", "<a,b/>", "<a;/>", "<a&lt;/>", "<a=/>", "<a\"/>", "<\u00e4/>", "<a\u00e4/>", "<a><\u00e4/></a>", "<a><</a>", "<a><<b/></a>", "<a<b/></a>", "<a></a</a>",
		"<a/>>", "<a>></a>>", "<<a/>", "<a/><", "<a/></", "<a/><!", "<a/><b", "<a><?b?></a>", "<a><!b></a>", "<a><!DOCTYPE b></a>", "<a>< b/></a>", "<a><=/></a>",
	} {
		checkSyntax(t, s)
	}
}

func TestNamesOfElementsByTheirLength(t *testing.T) {
	for _, n := range []int{1, 2, 63, 64, 65, 66, 128, 129, 1000} {
		name := strings.Repeat("n", n)
		whole, ended, attribute := "<"+name+"></"+name+">", "<"+name+"/>", "<a "+name+"='1'/>"
		if n <= 64 {
			checkTokens(t, whole, start(name), end(name))
			checkTokens(t, ended, empty(name))
			checkTokens(t, attribute, empty("a", attr(name, "1")))
		} else {
			checkSyntax(t, whole)
			checkSyntax(t, ended)
			checkSyntax(t, attribute)
			checkSyntax(t, "<"+name[:64]+"></"+name+">")
			checkSyntax(t, "<"+name+"></"+name[:64]+">")
		}
		checkSyntax(t, "<"+name)
	}
}

// TestEachByteOfADocument: each byte, put ahead of each byte of a document, instead of it, and behind it.
func TestEachByteOfADocument(t *testing.T) {
	const doc = "\xef\xbb\xbf<?xml a?> <!--b--><c d = 'e&lt;' f=\"&#65;\"> g&gt;<h/><![CDATA[i]]><!---->\u00e4</c ><!--j--> "
	for i := range len(doc) + 1 {
		for c := range 256 {
			checkAlike(t, doc[:i]+sign(c)+doc[i:], deep)
			if i < len(doc) {
				checkAlike(t, doc[:i]+sign(c)+doc[i+1:], deep)
			}
			if t.Failed() {
				return
			}
		}
	}
}

func TestEachByteOfANameInADocument(t *testing.T) {
	for c := range 256 {
		letter, inName := isOf(byte(c), plainLetters), isOf(byte(c), plainSigns)
		s := sign(c)
		if letter {
			checkTokens(t, "<"+s+"></"+s+">", start(s), end(s))
			checkTokens(t, "<"+s+"/>", empty(s))
			checkTokens(t, "<a "+s+"='1'/>", empty("a", attr(s, "1")))
		} else {
			checkSyntax(t, "<"+s+"></"+s+">")
			checkSyntax(t, "<"+s+"/>")
			checkSyntax(t, "<a>"+"<"+s+"b/></a>")
		}
		if inName {
			checkTokens(t, "<a"+s+"/>", empty("a"+s))
			checkTokens(t, "<a"+s+"b></a"+s+"b>", start("a"+s+"b"), end("a"+s+"b"))
			checkTokens(t, "<a b"+s+"='1'/>", empty("a", attr("b"+s, "1")))
			checkSyntax(t, "<a></a"+s+">")
		} else {
			checkSyntax(t, "<a"+s+"b></a"+s+"b>")
			checkAtAll(t, "<a"+s+"/>")
			checkAtAll(t, "<a b"+s+"='1'/>")
		}
	}
}

func TestAttributes(t *testing.T) {
	checkTokens(t, "<a b=''/>", empty("a", attr("b", "")))
	checkTokens(t, "<a b=\"\"></a>", start("a", attr("b", "")), end("a"))
	checkTokens(t, "<a b='1' c=\"2\"/>", empty("a", attr("b", "1"), attr("c", "2")))
	checkTokens(t, "<a c='1' b='2' B='3' a='4'/>", empty("a", attr("c", "1"), attr("b", "2"), attr("B", "3"), attr("a", "4"))) // in their order
	checkTokens(t, "<a b = '1'\n\tc\r=\n\"2\" />", empty("a", attr("b", "1"), attr("c", "2")))
	checkTokens(t, `<a b='"' c="'"/>`, empty("a", attr("b", `"`), attr("c", "'")))
	checkTokens(t, `<a b='"1"' c="'2' ''"/>`, empty("a", attr("b", `"1"`), attr("c", "'2' ''")))
	checkTokens(t, "<a b=' 1\t\r\n 2 '/>", empty("a", attr("b", " 1\t\r\n 2 "))) // blanks stay as they are
	checkTokens(t, "<a b='>' c='/>' d=']]>' e='-->' f='?>' g='=' h='--'/>", empty("a", attr("b", ">"), attr("c", "/>"), attr("d", "]]>"), attr("e", "-->"), attr("f", "?>"), attr("g", "="), attr("h", "--")))
	checkTokens(t, "<a b='&lt;&gt;&amp;&quot;&apos;&#65;&#x42;'/>", empty("a", attr("b", "<>&\"'AB")))
	checkTokens(t, "<a b=\"&#34;&#x27;&#10;&#32;\"/>", empty("a", attr("b", "\"'\n "))) // what a ref stands for ends nothing
	checkTokens(t, "<a b='&amp;lt;'/>", empty("a", attr("b", "&lt;")))                  // and begins nothing
	checkTokens(t, "<a b='\u00e4\u65b0\U0001f600'/>", empty("a", attr("b", "\u00e4\u65b0\U0001f600")))
	checkTokens(t, "<a xmlns:b='c' b:d='e'/>", empty("a", attr("xmlns:b", "c"), attr("b:d", "e")))
}

func TestAttributesThatAreNone(t *testing.T) {
	for _, s := range []string{"b", "b=", "=", "='1'", "'1'", "b'1'", "b 1", "b '1'", "b=1", "b=1 ", "b='", "b=\"", "b='1", "b=\"1", "b='1\"", "b=\"1'", "b=='1'", "b= ='1'", "b='1'c='2'", "b='1'\"2\"", "b='1'=", "b='1' c", "b='1' c=", "b='1' ='2'", "b='1','2'", "b='1', c='2'", "b='1';", "1='1'", "-='1'", ".b='1'", "b*='1'", "b c='1'", "\u00e4='1'", "b\u00e4='1'", "b=`1`", "b=\u201c1\u201d", "b=&quot;1&quot;", "b=&#39;1'", "b&#61;'1'", "&lt;='1'",
		"b='<'", "b='1<2'", "b='<c>'", "b=\"<\"", "b='<'>", "b='1' c='<'", "b='<!---->'", "b='<![CDATA[1]]>'",
		"b='&'", "b='&1'", "b='1&'", "b='&;'", "b='& '", "b='&&'", "b='&lt'", "b='&lt;&'", "b='&&lt;'", "b='&nope;'", "b='&#0;'", "b=\"&\"", "b=\"&quot\"", "b='a&b'", "b='&apos'", "b='&'lt;'", "b='?a=1&b=2'", "b=\"a & b\""} {
		for _, doc := range []string{"<a " + s + "/>", "<a " + s + "></a>", "<a " + s + " />", "<a z='0' " + s + "/>", "<a " + s, "<b><a " + s + "/></b>"} {
			checkSyntax(t, doc)
		}
	}
	for _, s := range []string{"<ab='1'/>", "<a'1'/>", "<a='1'/>", "<a b='1'c='2'/>", "<a b='1'/c='2'>", "<a b='1' / c='2'>", "<a></a b='1'>", "<a b='1'/ >", "<a b='1'//>"} {
		checkSyntax(t, s)
	}
}

func TestAttributesOfOneNameTwice(t *testing.T) {
	for _, s := range []string{"b='1' b='1'", "b='1' b='2'", "b='' b=''", "b='1' c='2' b='3'", "c='1' b='2' b='3'", "b='1'\nb=\"1\"", "b='1' b ='2'", "b:c='1' b:c='2'"} {
		checkSyntax(t, "<a "+s+"/>")
		checkSyntax(t, "<a "+s+"></a>")
		checkSyntax(t, "<z><a "+s+"/></z>")
	}
	checkTokens(t, "<a b='1'><a b='1'/><b b='1'/></a>", start("a", attr("b", "1")), empty("a", attr("b", "1")), empty("b", attr("b", "1")), end("a"))
	checkTokens(t, "<a b='1' bb='2' B='3' b:b='4'/>", empty("a", attr("b", "1"), attr("bb", "2"), attr("B", "3"), attr("b:b", "4")))
	many := ""
	for i := range 15 {
		many += " b" + strconv.Itoa(i) + "=''"
	}
	for i := range 15 {
		checkSyntax(t, "<a"+many+" b"+strconv.Itoa(i)+"=''/>")
	}
}

func TestHowManyAttributesThereMayBe(t *testing.T) {
	list := ""
	var want []api.Attr
	for n := range 40 {
		if n <= 16 {
			checkTokens(t, "<a"+list+"/>", empty("a", want...))
			checkTokens(t, "<a"+list+" ></a>", start("a", want...), end("a"))
			checkTokens(t, "<b><a"+list+"/><a"+list+"/></b>", start("b"), empty("a", want...), empty("a", want...), end("b"))
		} else {
			checkSyntax(t, "<a"+list+"/>")
			checkSyntax(t, "<a"+list+"></a>")
			checkSyntax(t, "<b><a"+list+"/></b>")
		}
		name, value := "n"+strconv.Itoa(n), strconv.Itoa(n*n)
		list += " " + name + "='" + value + "'"
		want = append(want, attr(name, value))
	}
}

func TestRefs(t *testing.T) {
	for s, want := range map[string]string{"lt": "<", "gt": ">", "amp": "&", "quot": "\"", "apos": "'", "#65": "A", "#x41": "A", "#x20ac": "\u20ac", "#x20AC": "\u20ac", "#9": "\t", "#10": "\n", "#13": "\r", "#32": " ", "#127": "\x7f", "#xd7ff": "\ud7ff", "#xe000": "\ue000", "#xfffd": "\ufffd", "#65536": "\U00010000", "#x10ffff": "\U0010ffff", "#1114111": "\U0010ffff", "#xfeff": "\ufeff",
		"#000000065": "A", "#0000000065": "-", "#x00000041": "A", "#x000000041": "-", "#x00010FfFf": "-"} {
		if want == "-" { // the ; is just 12 bytes behind
			want, _ = clean.Named(s)
			if len(s) != 11 {
				t.Fatalf("%q isn't of 11 bytes", s)
			}
		}
		checkTokens(t, "<a>&"+s+";</a>", start("a"), text(want), end("a"))
		checkTokens(t, "<a>b&"+s+";c&"+s+";</a>", start("a"), text("b"+want+"c"+want), end("a"))
		checkTokens(t, "<a b='&"+s+";' c=\"1&"+s+";2\"/>", empty("a", attr("b", want), attr("c", "1"+want+"2")))
		checkNone(t, "&"+s+";<a/>")
		checkSyntax(t, "<a/>&"+s+";")
		checkSyntax(t, "<a &"+s+";/>")
		checkSyntax(t, "<&"+s+";/>")
		checkSyntax(t, "<a b=&"+s+";/>")
		checkSyntax(t, "<a>&"+s+"</a>")
		checkSyntax(t, "<a b='&"+s+"'/>")
		checkSyntax(t, "<a>&"+s)
		checkSyntax(t, "<a></a&"+s+";>")
	}
}

func TestRefsByTheirLength(t *testing.T) {
	for n := range 40 {
		for _, s := range []string{"&#" + strings.Repeat("0", n) + "65;", "&#x" + strings.Repeat("0", n) + "41;"} {
			inText, inValue := "<a>"+s+"</a>", "<a b='"+s+"'/>"
			if len(s) <= 13 { // the ; is the 12th byte behind the &
				checkTokens(t, inText, start("a"), text("A"), end("a"))
				checkTokens(t, inValue, empty("a", attr("b", "A")))
			} else {
				checkSyntax(t, inText)
				checkSyntax(t, inValue)
			}
		}
	}
}

func TestRefsThatAreNone(t *testing.T) {
	for _, s := range []string{"&", "&;", "&&", "& ;", "& amp;", "&amp ;", "&lt", "&l", "&nope;", "&nbsp;", "&LT;", "&Lt;", "&lT;", "&#;", "&#x;", "&#X41;", "&#a;", "&#xg;", "&#-1;", "&#+65;", "&# 65;", "&#65 ;", "&#6 5;", "&65;", "&x41;", "&#x-41;", "&##65;", "&#&#65;", "&#0;", "&#8;", "&#11;", "&#12;", "&#31;", "&#xd800;", "&#xdfff;", "&#xfffe;", "&#xffff;", "&#x110000;", "&#1114112;", "&#99999999;", "&#999999999;", "&#xfffffffff;", "&#4294967361;", "&&lt;", "&lt&gt;", "&amp&", "&\u00e4;", "&lt\u00e4;", "&lt&#59;", "&abcdefghijk;", "&abcdefghijkl;", "&#xffffffffffff;"} {
		for _, doc := range []string{"<a>" + s + "</a>", "<a>b" + s + "c</a>", "<a b='" + s + "'/>", "<a b=\"" + s + "\"/>", "<a b=\"c" + s + "d\"/>", "<a>" + s, "<a>" + s + "<b/></a>", "<a>;" + s + "</a>;"} {
			checkSyntax(t, doc)
		}
	}
	checkTokens(t, "<a><![CDATA[&]]><!--&-->;</a>", start("a"), text("&;"), end("a"))
	checkSyntax(t, "<a>&<!---->lt;</a>")
	checkSyntax(t, "<a>&l<![CDATA[t]]>;</a>")
}

func TestRefsOfAllNumbers(t *testing.T) {
	const step = 1 << 12
	for from := 0; from < 0x112000; from += step {
		var doc, want strings.Builder
		for n := from; n < from+step; n++ {
			ref := "&#" + strconv.Itoa(n) + ";"
			stands, ok := clean.Named(ref[1 : len(ref)-1])
			if !ok {
				checkFault(t, "<a>"+ref+"</a>", deep, api.ErrSyntax)
				continue
			}
			doc.WriteString(ref)
			want.WriteString(stands)
		}
		if want.Len() > 0 {
			checkTokens(t, "<a>"+doc.String()+"</a>", start("a"), text(want.String()), end("a"))
		}
	}
}

func TestCdata(t *testing.T) {
	checkTokens(t, "<a><![CDATA[]]></a>", start("a"), end("a"))
	for _, s := range []string{"b", " ", "]", "]]", "]]]", "]]]]", "a]", "a]]", "]a", "]]a", "] ]>", "]>", ">", "]]a>", "a]]b]", "<", "<b>", "</a>", "<!-- -->", "<!--", "--", "<![CDATA[", "&", "&lt;", "&nope;", "'", "\"", "?>", "\r\n", "\u00e4\u65b0\U0001f600\ufffd", "[[", "CDATA[", strings.Repeat("]", 100)} {
		checkTokens(t, "<a><![CDATA["+s+"]]></a>", start("a"), text(s), end("a"))
		checkTokens(t, "<a>b<![CDATA["+s+"]]>c<d/></a>", start("a"), text("b"+s+"c"), empty("d"), end("a"))
		checkTokens(t, "<a><![CDATA["+s+"]]><![CDATA["+s+"]]></a>", start("a"), text(s+s), end("a"))
		whole := "<![CDATA[" + s + "]]>"
		checkNone(t, whole)
		checkNone(t, whole+"<a/>")
		checkNone(t, "<?xml ?>"+whole+"<a/>")
		checkSyntax(t, "<a/>"+whole)
		checkSyntax(t, "<a></a>"+whole)
		checkSyntax(t, "<a "+whole+"/>")
		checkSyntax(t, "<a b="+whole+"/>")
		checkSyntax(t, "<a b='"+whole+"'/>")
	}
	checkTokens(t, "<a><![CDATA[b]]>]]>]]]]></a>", start("a"), text("b]]>]]]]>"), end("a")) // the first ]]> ends it
	checkTokens(t, "<a><![CDATA[]]]]><![CDATA[>]]></a>", start("a"), text("]]>"), end("a"))
}

func TestCdataThatIsNone(t *testing.T) {
	for _, s := range []string{"<![CDATA[", "<![CDATA[b", "<![CDATA[b]", "<![CDATA[b]]", "<![CDATA[b]>", "<![CDATA[b] ]>", "<![CDATA[b]] >", "<![CDATA[b-->", "<![cdata[b]]>", "<![Cdata[b]]>", "<![CDAT[b]]>", "<![CDATAS[b]]>", "<![CDATA", "<![", "<![[b]]>", "<! [CDATA[b]]>", "<![ CDATA[b]]>", "<![CDATA [b]]>", "<![CDATA(b))>", "<[CDATA[b]]>", "<!CDATA[b]]>", "<![CDATA]]>", "<![]]>", "<!]]>"} {
		checkSyntax(t, "<a>"+s)
		checkSyntax(t, "<a>"+s+"</a>")
		checkSyntax(t, "<a>"+s+"<b/></a>")
		checkNone(t, s+"<a/>")
	}
}

func TestTextOutsideOfTheRoot(t *testing.T) {
	for _, s := range []string{"b", "-", ">", ";", "&lt;", "&#32;", "&", "]]>", "-->", "?>", "\"", "\v", "\u00a0", "\u00e4", "0", "/>", "="} {
		for _, ahead := range []string{"", " ", "<?xml ?>", "<!---->"} {
			checkNone(t, ahead+s+"<a/>")
			checkNone(t, ahead+s+" <a></a>")
			checkSyntax(t, "<a/>"+ahead[:min(1, len(ahead))]+s)
			checkSyntax(t, "<a></a> <!---->"+s)
		}
	}
}

func TestTwoRoots(t *testing.T) {
	for _, a := range []string{"<a/>", "<a></a>", "<a>b</a>", "<a><b/></a>"} {
		for _, between := range []string{"", " ", "\n", "<!---->", " <!--c--> "} {
			for _, b := range []string{"<a/>", "<a></a>", "<b", "<b/>", "<_:/>", "</a>", "</b>", "<a"} {
				checkSyntax(t, a+between+b)
				checkFault(t, a+between+b, 2, api.ErrSyntax)
				checkDeep(t, a+between+b, 0)
			}
		}
	}
}

func TestRunesThatMayNotStand(t *testing.T) {
	bad := []string{"\x00", "\x01", "\x08", "\x0b", "\x0c", "\x0e", "\x1f", "\xed\xa0\x80", "\xed\xbf\xbf", "\xef\xbf\xbe", "\xef\xbf\xbf", "\xf4\x90\x80\x80",
		"\x80", "\xbf", "\xc0", "\xc1\x80", "\xc0\x80", "\xc2", "\xc3", "\xe0\x80\x80", "\xe0\xa0", "\xe2\x82", "\xe2", "\xf0\x80\x80\x80", "\xf0\x9f\x98", "\xf0\x9f", "\xf5\x80\x80\x80", "\xf8\x88\x80\x80\x80", "\xfe", "\xff", "\xa0", "\xe4"}
	good := []string{"\t", "\n", "\r", " ", "\x7f", "\u0080", "\u0085", "\u009f", "\u07ff", "\u0800", "\ud7ff", "\ue000", "\ufdd0", "\ufeff", "\ufffc", "\ufffd", "\U00010000", "\U0001fffe", "\U0010fffe", "\U0010ffff"}
	frames := []struct{ ahead, behind string }{{"<?xml ", "?><a/>"}, {"<?xml version='", "'?><a/>"}, {"<!--", "--><a/>"}, {"<a/><!--", "-->"}, {"<a><!--", "--></a>"}, {"<a>", "</a>"}, {"<a><b/>", "c</a>"}, {"<a><![CDATA[", "]]></a>"}, {"<a b='", "'/>"}, {"<a b=\"1", "2\"></a>"}}
	for _, f := range frames {
		for _, r := range bad {
			checkSyntax(t, f.ahead+r+f.behind)
			checkSyntax(t, f.ahead+"a"+r+"b"+f.behind)
		}
		for _, r := range good {
			s := f.ahead + r + f.behind
			if got, err := lex.Tokens(s, 2); err != nil {
				t.Errorf("Tokens(%q): %v, %v", s, got, err)
			}
			checkAtAll(t, s)
		}
	}
	for _, r := range append(bad, good...) {
		for _, s := range []string{r + "<a/>", "<" + r + "a/>", "<a" + r + "/>", "<a " + r + "b='1'/>", "<a b" + r + "='1'/>", "<a b=" + r + "'1'/>", "<a b='1'" + r + "/>", "<a/" + r + ">", "<a>&" + r + "lt;</a>", "<a>&lt" + r + ";</a>", "<a></" + r + "a>", "<a></a" + r + ">", "<a/>" + r, "<!" + r + "----><a/>", "<!----" + r + "><a/>", "<?xml" + r + "?><a/>", "<?xml ?" + r + "><a/>", "<a><!" + r + "[CDATA[]]></a>", "<a><![CDATA[]]" + r + "></a>", "<?xml ?>" + r + "<a/>", "<a/> " + r} {
			if strings.Contains(plainBlanks, r) || s == "\ufeff<a/>" {
				checkAtAll(t, s)
			} else {
				checkSyntax(t, s)
			}
		}
	}
}

func TestTextsAllRunesOf(t *testing.T) {
	const step = 1 << 10
	for from := rune(0); from < 0x110000; from += step {
		var s strings.Builder
		for r := from; r < from+step; r++ {
			if mayStand(r) && r != '<' && r != '&' {
				s.WriteRune(r)
			} else if utf8.ValidRune(r) {
				checkFault(t, "<a>"+string(r)+"</a>", 1, api.ErrSyntax)
			}
		}
		if s.Len() > 0 {
			checkTokens(t, "<a>"+s.String()+"</a>", start("a"), text(s.String()), end("a"))
		}
	}
}

func TestTextsPutTogether(t *testing.T) {
	checkTokens(t, "<a>b&lt;<![CDATA[c]]>d</a>", start("a"), text("b<cd"), end("a"))
	checkTokens(t, "<a>b<!--c-->d</a>", start("a"), text("bd"), end("a"))
	checkTokens(t, "<a><!--b-->&amp;<!--c--><![CDATA[d]]><!--e-->f<!--g--></a>", start("a"), text("&df"), end("a"))
	checkTokens(t, "<a> <!--b--> <!--c--> </a>", start("a"), text("   "), end("a"))
	checkTokens(t, "<a>b<!----><c/><!---->d</a>", start("a"), text("b"), empty("c"), text("d"), end("a"))
	checkTokens(t, "<a>b<c>d<!---->e</c>f<!---->g</a>", start("a"), text("b"), start("c"), text("de"), end("c"), text("fg"), end("a"))
	checkTokens(t, "<a>b<![CDATA[]]>c</a>", start("a"), text("bc"), end("a"))
	checkTokens(t, "<a>&amp;<!---->lt;</a>", start("a"), text("&lt;"), end("a")) // what a ref stands for isn't read again
	checkTokens(t, "<a>&lt;b/&gt;</a>", start("a"), text("<b/>"), end("a"))
	checkTokens(t, "<a><!----><b><!----></b><!----></a>", start("a"), start("b"), end("b"), end("a"))
}

func TestNoTextIsEmpty(t *testing.T) {
	for _, s := range []string{"", "<!---->", "<!--b-->", "<!--b--><!--c-->", "<![CDATA[]]>", "<![CDATA[]]><![CDATA[]]>", "<!--b--><![CDATA[]]><!--c-->"} {
		checkTokens(t, "<a>"+s+"</a>", start("a"), end("a"))
		checkTokens(t, "<a>"+s+"<b/>"+s+"<b>"+s+"</b>"+s+"</a>", start("a"), empty("b"), start("b"), end("b"), end("a"))
		checkTokens(t, "<a>"+s+"c"+s+"<b/>"+s+"</a>", start("a"), text("c"), empty("b"), end("a"))
	}
}

// nested: n elements in one another, the innermost one as last tells.
func nested(n int, last string) string {
	return strings.Repeat("<a>", n-1) + last + strings.Repeat("</a>", n-1)
}

func TestDepths(t *testing.T) {
	for n := 1; n <= 70; n++ {
		for _, last := range []string{"<b></b>", "<b/>", "<b c='1'/>", "<b>d</b>", "<b/><b/>"} {
			if n == 1 && last == "<b/><b/>" {
				continue
			}
			s := nested(n, last)
			for depth := range n + 3 {
				if depth < n {
					checkDeep(t, s, depth)
				} else if got, err := lex.Tokens(s, depth); err != nil || height(got) != n {
					t.Errorf("Tokens(%.200q, %d): %v, %v", s, depth, got, err)
				}
			}
		}
	}
}

func TestAnElementThatIsBrokenOff(t *testing.T) {
	for n := 1; n <= 20; n++ {
		ahead := strings.Repeat("<a>", n-1)
		for _, last := range []string{"<b", "<_", "<:", "<Z", "<b ", "<b c", "<b c=", "<b c='", "<b/", "<b>", "<b></", "<b\x00", "<b\xff", "<b<", "<b=", "<b'", "<b&", "<" + strings.Repeat("b", 65), "<b c='1' c='1'>"} {
			checkDeep(t, ahead+last, n-1) // what stands behind the first letter isn't read any more
			checkDeep(t, ahead+last, n-2)
			checkFault(t, ahead+last, n, api.ErrSyntax)
			checkFault(t, ahead+last, n+1, api.ErrSyntax)
		}
		for _, last := range []string{"<", "< b>", "<1", "<-", "<.", "</", "<>", "<!", "<?", "<!-", "<!--", "<!--<b>", "<![CDATA[<b>", "<\x00b", "<\xffb", "<\u00e4", "<!b", "<?b", "<=b", "<'b", "<&b", "<<b", "</<b", "</ <b>", "&<b>"} {
			checkFault(t, ahead+last, n-1, api.ErrSyntax) // no element begins
			checkFault(t, ahead+last, n, api.ErrSyntax)
			checkFault(t, ahead+last, deep, api.ErrSyntax)
		}
	}
}

func TestDepthsBelowOne(t *testing.T) {
	for _, depth := range []int{0, -1, -2, -64, -65, -1 << 31, -1 << 32, math.MinInt + 1, math.MinInt} {
		for _, s := range []string{"<a/>", "<a></a>", "<a", "<a\xff", " <a/>", "<?xml ?><a/>", "<!--b--><a/>", "\xef\xbb\xbf<a/>", "<a/><b/>", "<a></b>", "<_", "<:"} {
			checkDeep(t, s, depth)
		}
		for _, s := range []string{"", " ", "a", "<", "<1", "<!--<a>", "<!--<a>-- --><a/>", "<?xml <a/>", "<?xml?><a/>", "\xff<a/>", "\x00<a/>", "&lt;<a/>", "</a>", "<![CDATA[]]><a/>", " <?xml ?><a/>", "<!-- \xff --><a/>", "<?xml \x00?><a/>", "\xef\xbb<a/>"} {
			checkFault(t, s, depth, api.ErrSyntax)
		}
	}
}

func TestDepthsAtTheEndsOfTheirType(t *testing.T) {
	for _, depth := range []int{1, 2, 1 << 16, 1<<31 - 1, 1 << 31, 1 << 32, math.MaxInt - 1, math.MaxInt} {
		if got, err := lex.Tokens("<a>b</a>", depth); err != nil || !sameTokens(got, []api.Token{start("a"), text("b"), end("a")}) {
			t.Errorf("by %d: %v, %v", depth, got, err)
		}
		checkFault(t, "<a>b", depth, api.ErrSyntax)
	}
}

func TestOfTwoFaultsTheFirstOne(t *testing.T) {
	for _, s := range []string{ // the element that is too deep by 1 stands first
		"<a><b></a>", "<a><b>\x00</b></a>", "<a><b>\xff", "<a><b c='1' c='2'/></a>", "<a><b>&nope;", "<a><b/></c>", "<a><b/></a><a/>", "<a><b/><!-- -- --></a>", "<a><b/></a>c", "<a>\u00e4<b\xe2", "<a><!-- - --><b", "<a>&lt;<b&", "<a><![CDATA[<]]><b\x00", "<a>><b",
	} {
		checkDeep(t, s, 1)
		checkSyntax(t, s)
	}
	for _, s := range []string{ // it stands second
		"<a>\x00<b/></a>", "<a>\xff<b/></a>", "<a>\xe2\x82<b/></a>", "<a>\xe2<b/></a>", "<a c='1' c='2'><b/></a>", "<a>&nope;<b/></a>", "<a>&<b/></a>", "<a>&lt<b/></a>", "<a></c><b/></a>", "<a></a><b/>", "<a/><b><c/></b>", "<a><!-- -- --><b/></a>", "<a><!-- \xff --><b/></a>", "<a><![CDATA[\x00]]><b/></a>", "<a c='\x01'><b/></a>", "<a c='<b/>'></a>", "<a c=<b/>></a>", "<a c<b/></a>", "<a <b/></a>", "<a<b/></a>", "<a><1/><b/></a>", "<a><?c?><b/></a>", "<a><!c><b/></a>", "<a></<b/></a>", "<a></a<b/></a>", "<a\xff><b/></a>", "<a/ ><b/></a>", "<?xml \xff?><a><b/></a>", "<!--\x00--><a><b/></a>", "\xff<a><b/></a>", "b<a><b/></a>", "<a>\xef\xbf\xbe<b/></a>", "<a>\xed\xa0\x80<b/></a>",
	} {
		checkFault(t, s, 1, api.ErrSyntax)
		checkSyntax(t, s)
	}
	checkDeep(t, "\xef\xbb\xbf<a>\xff", 0)
	checkFault(t, "<a>\xff<b><c>", 2, api.ErrSyntax)
	checkDeep(t, "<a><b><c>\xff", 2)
	checkFault(t, "<a><b>\xff<c>", 2, api.ErrSyntax)
}

// TestWhereTheFaultStands: a fault of depth at its <, one of a rune at the rune, whatever else stands behind.
func TestWhereTheFaultStands(t *testing.T) {
	for _, c := range []struct {
		s     string
		depth int
		at    int
	}{
		{"<a/>", 0, 0}, {" \n<a/>", 0, 2}, {"<!--b--><a", 0, 8}, {"<a>b<c", 1, 4}, {"<a>\u00e4<b>\xff", 1, 5}, {nested(65, "<b/>"), 64, 64 * 3},
		{"\xff", 1, 0}, {"<a>\xff</a>", 1, 3}, {"<a>\u00e4\x00\x00</a>", 1, 5}, {"<a b='\xe2\x82'/>", 1, 6}, {"<!--\xef\xbf\xbf--><a/>", 1, 4},
		{"", 1, 0}, {" ", 1, 1}, {"b", 1, 0}, {"<a>", 1, 3}, {"<a/><a/>", 1, 4}, {"<a>&nope;</a>", 1, 3},
	} {
		_, err := lex.Tokens(c.s, c.depth)
		var f *api.Fault
		if !errors.As(err, &f) || f.At != c.at {
			t.Errorf("Tokens(%.200q, %d): %v, not at %d", c.s, c.depth, f, c.at)
		}
	}
}

func TestWhatIsReadAtSomeDepthIsReadAlikeAtAGreaterOne(t *testing.T) {
	for _, s := range append(documents(1500), texts(1500)...) {
		var known []api.Token
		var code api.Code
		for depth := range 12 {
			got, err := lex.Tokens(s, depth)
			switch {
			case known != nil && (err != nil || !sameTokens(got, known)):
				t.Errorf("Tokens(%.200q, %d): %v, %v, not %v", s, depth, got, err, known)
			case code == api.ErrSyntax && !errors.Is(err, api.ErrSyntax):
				t.Errorf("Tokens(%.200q, %d): %v, %v, no fault any more", s, depth, got, err)
			case err == nil:
				known = got
			case errors.Is(err, api.ErrSyntax):
				code = api.ErrSyntax
			}
		}
	}
}

func TestNoTwoListsShareMemory(t *testing.T) {
	const s = "<a b='1' c='2'><d e='3'/><d e='3' f='4' g='5'>h</d><i/>j</a>"
	want, _ := lex.Tokens(s, 2)
	got, _ := lex.Tokens(s, 2)
	for i := range got {
		got[i].Attrs = append(got[i].Attrs, attr("x", strconv.Itoa(i)), attr("y", strconv.Itoa(i)))
		for k := range got[i].Attrs {
			got[i].Attrs[k].Value += "#" + strconv.Itoa(i)
		}
	}
	for i, x := range got {
		own := "#" + strconv.Itoa(i)
		for k, a := range x.Attrs {
			before := strconv.Itoa(i)
			if k < len(want[i].Attrs) {
				before = want[i].Attrs[k].Value
			}
			if a.Value != before+own {
				t.Errorf("attribute %d of token %d: %q", k, i, a.Value)
			}
		}
	}
	checkTokens(t, s, want...) // nor with later answers
	first, _ := lex.Tokens(s, 2)
	second, _ := lex.Tokens(s, 2)
	clear(first)
	_ = append(first[:1], start("x"))
	if !sameTokens(second, want) {
		t.Errorf("changed with another answer: %v", second)
	}
}

func TestNothingIsKept(t *testing.T) {
	const s = "<a b='1'>c<!----><d/>&lt;</a>"
	want, _ := lex.Tokens(s, 2)
	for _, other := range append(texts(200), documents(200)...) {
		lex.Tokens(other, 1)
		lex.Tokens(other, 3)
		checkTokens(t, s, want...)
	}
}

// pieces: what documents are put together of, each whole.
func pieces() []string {
	return []string{"b", " ", "\n", "x > y", "]]>", "\u00e4", "\U0001f600", "&lt;", "&amp;", "&#65;", "&#x20ac;", "<!---->", "<!-- - -->", "<!--<a>-->", "<![CDATA[]]>", "<![CDATA[<b>&]]>", "<![CDATA[]]]]>", "<c/>", "<c />", "<c d='1'/>", "<c></c>", "<c>e</c >", "<c d='&lt;' e = \"'\">f<g/></c>", "<c><c><c/></c>h</c>"}
}

// documents: n documents, mixed.
func documents(n int) []string {
	var l []string
	for i, s := range sample.Texts(pieces(), n, 12) {
		head := []string{"", "\ufeff", "<?xml ?>", "\ufeff<?xml version='1.0'?>\n", " ", "<!--a-->"}[i%6]
		foot := []string{"", "\n", "<!--z-->", " <!----> "}[i%4]
		l = append(l, head+"<a>"+s+"</a>"+foot)
	}
	return l
}

// texts: n texts of marks, names, refs and blanks, whole and in pieces, mixed.
func texts(n int) []string {
	parts := append(pieces(), "<a>", "</a>", "<a>", "</a>", "<b>", "</b>", "<a", "<a ", ">", "/>", "/", "<", "</", "=", "'", "\"", " d='1'", " d=\"", " e=", "&", ";", "lt;", "#65;", "&nope;", "<!--", "-->", "--", "-", "<!", "<![CDATA[", "]]>", "]", "<?xml ?>", "<?xml ", "?>", "\xef\xbb\xbf", "\x00", "\xff", "\xe2\x82", "\ufffe", "1", "_", ":")
	return sample.Texts(parts, n, 10)
}

func TestMixedDocuments(t *testing.T) {
	for _, s := range documents(10000) {
		if _, err := lex.Tokens(s, 5); err != nil {
			t.Errorf("Tokens(%q): %v", s, err)
		}
		checkAtAll(t, s)
		if t.Failed() {
			return
		}
	}
}

func TestMixedTexts(t *testing.T) {
	for _, s := range texts(20000) {
		checkAtAll(t, s)
		checkAtAll(t, "<a>"+s)
		checkAtAll(t, "<a>"+s+"</a>")
		if t.Failed() {
			return
		}
	}
}

// TestDocumentsWithOneChange: a byte less, a part less, or all behind a place gone.
func TestDocumentsWithOneChange(t *testing.T) {
	for _, s := range documents(300) {
		for i := range s {
			checkAlike(t, s[:i], 2)
			checkAlike(t, s[i:], 2)
			checkAlike(t, s[:i]+s[i+1:], 2)
			checkAlike(t, s[:i]+s[min(i+4, len(s)):], 2)
			checkAlike(t, s[:i]+s[i:i+1]+s[i:], 2)
		}
		if t.Failed() {
			return
		}
	}
}

// TestAllShortTexts: all texts of a few parts.
func TestAllShortTexts(t *testing.T) {
	parts := []string{"<a", "</a", ">", "/", " ", "b='", "'", "&lt;", "<!--", "-", "\xff", "x"}
	list := []string{""}
	for range 5 {
		for _, s := range list {
			for depth := range 3 {
				checkAlike(t, s, depth)
				checkAlike(t, "<a>"+s, depth)
				checkAlike(t, "<a>"+s+"</a>", depth)
			}
		}
		var longer []string
		for _, s := range list {
			for _, p := range parts {
				longer = append(longer, s+p)
			}
		}
		list = longer
	}
	for _, s := range list {
		checkAlike(t, s, 1)
		checkAlike(t, "<a"+s+"</a>", 1)
	}
}

func TestTextsOfOneSign(t *testing.T) {
	const n = 1 << 16
	for c := range 256 {
		s := strings.Repeat(sign(c), n)
		checkNone(t, s)
		doc := "<a>" + s + "</a>"
		if c == '<' || c == '&' || c < ' ' && !isOf(byte(c), plainBlanks) || c >= 0x80 {
			checkSyntax(t, doc)
		} else {
			checkTokens(t, doc, start("a"), text(s), end("a"))
		}
		if t.Failed() {
			return
		}
	}
}

func TestLongTexts(t *testing.T) {
	const n = 1 << 16
	repeat := strings.Repeat
	long := repeat("b", n)
	checkTokens(t, "<!--"+long+"--><a/>", empty("a"))
	checkTokens(t, "<?xml "+long+"?><a/>", empty("a"))
	checkTokens(t, "<a b='"+long+"'/>", empty("a", attr("b", long)))
	checkTokens(t, "<a b='"+repeat("&lt;", n/4)+"'>"+repeat("&#65;", n/5)+"</a>", start("a", attr("b", repeat("<", n/4))), text(repeat("A", n/5)), end("a"))
	checkTokens(t, "<a><![CDATA["+repeat("]", n)+"]]></a>", start("a"), text(repeat("]", n)), end("a"))
	checkTokens(t, "<a>"+repeat("b<!---->", n/8)+"</a>", start("a"), text(repeat("b", n/8)), end("a"))
	checkTokens(t, "<!--"+repeat("- ", n/2)+"--><a/>", empty("a"))
	checkTokens(t, repeat(" ", n)+"<a/>"+repeat("\n", n), empty("a"))
	checkTokens(t, "<a"+repeat(" ", n)+"/>", empty("a"))
	checkNone(t, "<!--"+long)
	checkNone(t, "<!--"+repeat("-", n)+"--><a/>")
	checkNone(t, "<?xml "+long)
	for _, s := range []string{"<" + long, "<" + long + "/>", "<a " + long + "='1'/>", "<a></" + long + ">", "<a b='" + long, "<a>&" + long + ";</a>", "<a>" + repeat("&", n), "<a><![CDATA[" + repeat("]]", n/2), "<a>" + repeat("&lt;", n/4), "<a b='" + repeat("&lt;", n/4)} {
		checkSyntax(t, s)
	}
}

func TestManyElementsInOneAnother(t *testing.T) {
	const n = 1 << 16
	open := strings.Repeat("<a>", n/3)
	checkFault(t, open, n, api.ErrSyntax)
	checkDeep(t, open, n/3-1)
	checkDeep(t, open, 64)
	var want []api.Token
	for range n / 7 {
		want = append(want, start("a"))
	}
	for range n / 7 {
		want = append(want, end("a"))
	}
	checkTokens(t, strings.Repeat("<a>", n/7)+strings.Repeat("</a>", n/7), want...)
	checkSyntax(t, strings.Repeat("</a>", n/4))
	var row []api.Token
	for range n / 4 {
		row = append(row, empty("b"))
	}
	checkTokens(t, "<a>"+strings.Repeat("<b/>", n/4)+"</a>", append(append([]api.Token{start("a")}, row...), end("a"))...)
	checkSyntax(t, strings.Repeat("<a/>", n/4))
}

// TestTimeGrowsAsTheText: texts so long that a search of the rest at each part would not come to its end within a test.
func TestTimeGrowsAsTheText(t *testing.T) {
	const n = 1 << 19
	for _, s := range []string{"b", "&lt;", "<!---->", "<![CDATA[]]>", "<b/>", "<b c='d'></b>", "]]", ">", "-", ";"} {
		if _, err := lex.Tokens("<a>"+strings.Repeat(s, n)+"</a>", 2); err != nil {
			t.Errorf("%q: %v", s, err)
		}
	}
	for _, s := range []string{"<a>", "<!--", "<!---->", "&", "<a b='", "<![CDATA[", "\xff", "<?xml ", "</a>", "<a><!--", "<a>&lt;"} {
		checkFault(t, strings.Repeat(s, n), math.MaxInt, api.ErrSyntax)
	}
}

func FuzzLex(f *testing.F) {
	for i, s := range append(documents(30), texts(30)...) {
		f.Add(s, i%4)
	}
	f.Fuzz(func(t *testing.T, s string, depth int) {
		checkAlike(t, s, depth)
		checkName(t, s, len(s) <= 64 && nameForm.MatchString(s))
	})
}
