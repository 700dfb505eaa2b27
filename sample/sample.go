// Package sample makes texts, numbers, tokens and nodes that the layers' tests read; the program itself doesn't call it.
package sample

import (
	"math"
	"strconv"
	"strings"
)

// Texts: n texts, each of fewer than most of the parts, put together by a row of numbers that is always the same, so that a test that fails fails again.
func Texts(parts []string, n, most int) []string {
	x := uint32(1)
	next := func(below int) int {
		x = x*1664525 + 1013904223
		return int(x>>8) % below
	}
	var l []string
	for range n {
		s := ""
		for range next(most) {
			s += parts[next(len(parts))]
		}
		l = append(l, s)
	}
	return l
}

// Numbered: the words w0, w1 and so on, n of them.
func Numbered(n int) []string {
	var l []string
	for i := range n {
		l = append(l, "w"+strconv.Itoa(i))
	}
	return l
}

// Mixed: n numbers, always the same, with bits of all places.
func Mixed(n int) []uint64 {
	x := uint64(1)
	var l []uint64
	for range n {
		x = x*6364136223846793005 + 1442695040888963407
		l = append(l, x^x>>32) // the low bits of x alone would soon come again
	}
	return l
}

// Bytes: fewer than most bytes, any ones, by the mixed number m.
func Bytes(m, most uint64) string {
	var b []byte
	for range m % most {
		b = append(b, byte(m>>24))
		m = m*6364136223846793005 + 1442695040888963407
	}
	return string(b)
}

// Edges: the numbers at the ends, and those of one bit, of all but one, of every second, and of half of them.
func Edges() []uint64 {
	const all = math.MaxUint64
	l := []uint64{0, all, all >> 1, 0x5555555555555555, 0xaaaaaaaaaaaaaaaa, 0xffffffff, 0xffffffff00000000}
	for bit := range 64 {
		l = append(l, 1<<bit, all^1<<bit)
	}
	return l
}

// Digits: a in base two, in 64 digits, the highest one first.
func Digits(a uint64) string {
	s := strconv.FormatUint(a, 2)
	return strings.Repeat("0", 64-len(s)) + s
}

// NoDistances: numbers that are no distance that layer 7 lets, the ends of their type among them, and some whose low bits alone would be one.
func NoDistances() []int {
	return []int{math.MinInt, math.MinInt + 1, -1 << 32, -1<<32 + 3, -1 << 31, -65, -64, -17, -16, -3, -2, -1,
		16, 17, 18, 31, 32, 63, 64, 65, 127, 128, 255, 256, 259, 1 << 16, 1<<31 - 1, 1 << 31, 1 << 32, 1<<32 + 3, math.MaxInt - 1, math.MaxInt}
}
