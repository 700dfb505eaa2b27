package lex_test

import (
	"strings"
	"unicode/utf8"

	"newsreel/api"
	"newsreel/clean"
)

// The layer told another way: by a machine that takes a text byte by byte, is in one state after each, and never looks ahead.
type machine struct {
	depth  int
	code   api.Code // of the fault, unless it is one of syntax
	root   bool     // the root has begun
	rest   bool     // the byte that came ended what was under way outside of the root
	open   []string
	tokens []api.Token
	text   string // since the last token
	word   string // the name, ref, value, comment or CDATA that is under way
	name   string
	attrs  []api.Attr
}

// state takes a byte, and tells the state behind it; nil, if the byte can't stand there.
type state func(m *machine, c byte) state

// plainTokens: what the machine makes of s, or the Code of the first fault.
func plainTokens(s string, depth int) ([]api.Token, api.Code) {
	m := &machine{depth: depth, code: api.ErrSyntax}
	at := state(atHead)
	next := 0 // where the next rune begins
	for i := 0; i < len(s); i++ {
		if i == next {
			n, ok := standing(s[i:])
			if !ok {
				return nil, api.ErrSyntax
			}
			next += n
		}
		m.rest = false
		if at = at(m, s[i]); at == nil {
			return nil, m.code
		}
	}
	if !m.rest || !m.root || len(m.open) > 0 {
		return nil, api.ErrSyntax
	}
	return m.tokens, api.OK
}

// standing: how many bytes the rune has that s begins with, and whether it is one that may stand in a document.
func standing(s string) (int, bool) {
	r, n := utf8.DecodeRuneInString(s)
	if r == utf8.RuneError && n < 2 {
		return 0, false
	}
	return n, r != 0xfffe && r != 0xffff && (r >= ' ' || strings.ContainsRune("\t\n\r", r))
}

const (
	plainBlanks  = " \t\n\r"
	plainLetters = "abcdefghijklmnopqrstuvwxyzABCDEFGHIJKLMNOPQRSTUVWXYZ_:"
	plainSigns   = plainLetters + "0123456789-."
)

func isOf(c byte, set string) bool { return strings.IndexByte(set, c) >= 0 }

// expect: the bytes of word, then the state that follows.
func expect(word string, then state) state {
	return func(m *machine, c byte) state {
		if c != word[0] {
			return nil
		}
		if len(word) == 1 {
			return then
		}
		return expect(word[1:], then)
	}
}

func atHead(m *machine, c byte) state {
	if c == 0xef {
		return expect("\xbb\xbf", atDeclaration)
	}
	return atDeclaration(m, c)
}

func atDeclaration(m *machine, c byte) state {
	if c == '<' {
		return inFirstMark
	}
	return outside(m, c)
}

func inFirstMark(m *machine, c byte) state {
	if c == '?' {
		return expect("xml", behindXml)
	}
	return inMark(m, c)
}

func behindXml(m *machine, c byte) state {
	if isOf(c, plainBlanks) {
		return inDeclaration
	}
	return nil
}

func inDeclaration(m *machine, c byte) state {
	if c == '?' {
		return inDeclarationEnd
	}
	return inDeclaration
}

func inDeclarationEnd(m *machine, c byte) state {
	if c == '>' {
		return m.resting()
	}
	return inDeclaration(m, c)
}

// resting: the state behind a part that is whole.
func (m *machine) resting() state {
	m.word = ""
	if len(m.open) > 0 {
		return within
	}
	m.rest = true
	return outside
}

func outside(m *machine, c byte) state {
	if c == '<' {
		return inMark
	}
	if isOf(c, plainBlanks) {
		return m.resting()
	}
	return nil
}

func within(m *machine, c byte) state {
	switch c {
	case '<':
		return inMark
	case '&':
		return inRef(within, &m.text)
	}
	m.text += string([]byte{c})
	return within
}

func inMark(m *machine, c byte) state {
	switch {
	case c == '!':
		return behindBang
	case c == '/' && len(m.open) > 0:
		return inEnd
	case !isOf(c, plainLetters) || m.root && len(m.open) == 0:
		return nil
	case len(m.open) >= m.depth:
		m.code = api.ErrDepth
		return nil
	}
	m.root, m.word = true, string([]byte{c})
	return inName
}

func behindBang(m *machine, c byte) state {
	if c == '-' {
		return expect("-", inComment)
	}
	if c == '[' && len(m.open) > 0 {
		return expect("CDATA[", inData)
	}
	return nil
}

func inComment(m *machine, c byte) state {
	m.word += string([]byte{c})
	if !strings.HasSuffix(m.word, "-->") {
		return inComment
	}
	if strings.Contains(m.word[:len(m.word)-3], "--") {
		return nil
	}
	return m.resting()
}

func inData(m *machine, c byte) state {
	m.word += string([]byte{c})
	if !strings.HasSuffix(m.word, "]]>") {
		return inData
	}
	m.text += m.word[:len(m.word)-3]
	return m.resting()
}

// inRef: behind the & of a ref; what it stands for goes to text.
func inRef(then state, text *string) state {
	name := ""
	var in state
	in = func(m *machine, c byte) state {
		if c == ';' {
			stands, ok := clean.Named(name)
			if !ok {
				return nil
			}
			*text += stands
			return then
		}
		name += string([]byte{c})
		if c == '<' || len(name) > 11 {
			return nil
		}
		return in
	}
	return in
}

// flush ends the text that is under way, and adds the token behind it.
func (m *machine) flush(x api.Token) {
	if m.text != "" {
		m.tokens = append(m.tokens, api.Token{Kind: api.TokText, Text: m.text})
	}
	m.text = ""
	m.tokens = append(m.tokens, x)
}

func inEnd(m *machine, c byte) state {
	if m.word != "" && (c == '>' || isOf(c, plainBlanks)) {
		if m.word != m.open[len(m.open)-1] {
			return nil
		}
		return behindEnd(m, c)
	}
	m.word += string([]byte{c})
	return inEnd
}

func behindEnd(m *machine, c byte) state {
	if c == '>' {
		m.flush(api.Token{Kind: api.TokEnd, Name: m.open[len(m.open)-1]})
		m.open = m.open[:len(m.open)-1]
		return m.resting()
	}
	if isOf(c, plainBlanks) {
		return behindEnd
	}
	return nil
}

func inName(m *machine, c byte) state {
	if isOf(c, plainSigns) {
		m.word += string([]byte{c})
		if len(m.word) > 64 {
			return nil
		}
		return inName
	}
	m.name, m.attrs = m.word, nil
	return behindName(m, c)
}

// behindName: behind an element's name, or an attribute's value.
func behindName(m *machine, c byte) state {
	if isOf(c, plainBlanks) {
		return inGap
	}
	return inBeginEnd(m, c)
}

func inGap(m *machine, c byte) state {
	if isOf(c, plainLetters) && len(m.attrs) < 16 {
		m.word = string([]byte{c})
		return inAttr
	}
	return behindName(m, c)
}

func inBeginEnd(m *machine, c byte) state {
	switch c {
	case '/':
		return behindSlash
	case '>':
		m.flush(api.Token{Kind: api.TokStart, Name: m.name, Attrs: m.attrs})
		m.open = append(m.open, m.name)
		return m.resting()
	}
	return nil
}

func behindSlash(m *machine, c byte) state {
	if c != '>' {
		return nil
	}
	m.flush(api.Token{Kind: api.TokEmpty, Name: m.name, Attrs: m.attrs})
	return m.resting()
}

func inAttr(m *machine, c byte) state {
	if !isOf(c, plainSigns) {
		for _, x := range m.attrs {
			if x.Name == m.word {
				return nil
			}
		}
		m.attrs = append(m.attrs, api.Attr{Name: m.word})
		return behindAttr(m, c)
	}
	m.word += string([]byte{c})
	if len(m.word) > 64 {
		return nil
	}
	return inAttr
}

func behindAttr(m *machine, c byte) state {
	switch {
	case c == '=':
		return aheadOfValue
	case isOf(c, plainBlanks):
		return behindAttr
	}
	return nil
}

func aheadOfValue(m *machine, c byte) state {
	switch {
	case c == '"' || c == '\'':
		m.word = ""
		return inValue(c)
	case isOf(c, plainBlanks):
		return aheadOfValue
	}
	return nil
}

func inValue(quote byte) state {
	var in state
	in = func(m *machine, c byte) state {
		switch c {
		case quote:
			m.attrs[len(m.attrs)-1].Value = m.word
			return behindName
		case '<':
			return nil
		case '&':
			return inRef(in, &m.word)
		}
		m.word += string([]byte{c})
		return in
	}
	return in
}
