// Package utf is layer 1: bytes as runes. See shared/doc/01-utf.md.
package utf

// none is the sign for what is no rune.
const none rune = 0xfffd

// Next: the first rune of s, and how many bytes it has.
func Next(s string) (rune, int) {
	r, n, _ := cut(s)
	return r, n
}

// Decode: the runes of s, the sign for each stretch of bytes that is none.
func Decode(s string) []rune {
	var l []rune
	for s != "" {
		r, n := Next(s)
		l = append(l, r)
		s = s[n:]
	}
	return l
}

// Is: whether r is a rune that may be.
func Is(r rune) bool {
	return r >= 0 && r < 0xd800 || r > 0xdfff && r <= 0x10ffff
}

// Bytes: the bytes of r, or of the sign.
func Bytes(r rune) string {
	return string(put(nil, r))
}

// Encode: the bytes of all runes of l.
func Encode(l []rune) string {
	var b []byte
	for _, r := range l {
		b = put(b, r)
	}
	return string(b)
}

// Valid: whether s is the bytes of runes alone.
func Valid(s string) bool {
	for s != "" {
		_, n, good := cut(s)
		if !good {
			return false
		}
		s = s[n:]
	}
	return true
}

// cut is Next with one answer more, whether the bytes are a rune's: the sign alone doesn't tell, since its own bytes are.
func cut(s string) (r rune, size int, good bool) {
	if s == "" {
		return 0, 0, false
	}
	if s[0] < 0x80 {
		return rune(s[0]), 1, true
	}
	n, low, high := follow(s[0])
	if n == 0 {
		return none, 1, false
	}
	r = rune(s[0] & (0x3f >> n))
	for i := 1; i <= n; i++ {
		if i == len(s) || s[i] < low || s[i] > high {
			return none, i, false
		}
		r = r<<6 | rune(s[i]&0x3f)
		low, high = 0x80, 0xbf // only the first one is held closer
	}
	return r, n + 1, true
}

// follow: how many bytes follow a lead (0: it is no lead), and the ends of what the first of them may be. They are closer than 80 and bf where bytes would be longer than they need, or the rune one that may not be.
func follow(lead byte) (n int, low, high byte) {
	switch {
	case lead >= 0xc2 && lead <= 0xdf:
		return 1, 0x80, 0xbf
	case lead == 0xe0:
		return 2, 0xa0, 0xbf
	case lead == 0xed:
		return 2, 0x80, 0x9f
	case lead >= 0xe1 && lead <= 0xef:
		return 2, 0x80, 0xbf
	case lead == 0xf0:
		return 3, 0x90, 0xbf
	case lead >= 0xf1 && lead <= 0xf3:
		return 3, 0x80, 0xbf
	case lead == 0xf4:
		return 3, 0x80, 0x8f
	}
	return 0, 0, 0
}

// put appends the bytes of r, or of the sign.
func put(b []byte, r rune) []byte {
	if !Is(r) {
		r = none
	}
	first, n := lead(r)
	b = append(b, first)
	switch n { // longer ones end as shorter ones do
	case 3:
		b = append(b, follower(r>>12))
		fallthrough
	case 2:
		b = append(b, follower(r>>6))
		fallthrough
	case 1:
		b = append(b, follower(r))
	}
	return b
}

// lead: the first byte of a rune that may be, and how many follow.
func lead(r rune) (byte, int) {
	switch {
	case r < 0x80:
		return byte(r), 0
	case r < 0x800:
		return 0xc0 | byte(r>>6), 1
	case r < 0x10000:
		return 0xe0 | byte(r>>12), 2
	}
	return 0xf0 | byte(r>>18), 3
}

// follower: the lowest six bits, marked as a byte that follows.
func follower(r rune) byte {
	return 0x80 | byte(r)&0x3f
}
