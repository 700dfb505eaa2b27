// Package sample makes texts that the layers' tests read; the program itself doesn't call it.
package sample

import "strconv"

// Texts: n texts, each of fewer than most of the parts, put together by a row of numbers that is always the same, so that a test that fails fails again.
func Texts(parts []string, n, most int) []string {
	x := uint32(1)
	next := func(below int) int {
		x = x*1664525 + 1013904223
		return int(x>>8) % below
	}
	var l []string
	for range n {
		s := ""
		for range next(most) {
			s += parts[next(len(parts))]
		}
		l = append(l, s)
	}
	return l
}

// Numbered: the words w0, w1 and so on, n of them.
func Numbered(n int) []string {
	var l []string
	for i := range n {
		l = append(l, "w"+strconv.Itoa(i))
	}
	return l
}
