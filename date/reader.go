package date

import (
	"strings"

	"newsreel/api"
)

// reader cuts what comes off the text that is left, piece by piece. Once a piece wasn't there, it is bad, and what it tells doesn't count.
type reader struct {
	rest string
	bad  bool
}

// skip cuts s off, and tells whether it was there.
func (r *reader) skip(s string) bool {
	rest, there := strings.CutPrefix(r.rest, s)
	r.rest = rest
	return there
}

// sign cuts s off, which must be there.
func (r *reader) sign(s string) {
	if !r.skip(s) {
		r.bad = true
	}
}

// ahead: how many digits come.
func (r *reader) ahead() int {
	n := 0
	for n < len(r.rest) && r.rest[n] >= '0' && r.rest[n] <= '9' {
		n++
	}
	return n
}

// digits cuts off all digits that come; there must be one.
func (r *reader) digits() {
	n := r.ahead()
	if n == 0 {
		r.bad = true
	}
	r.rest = r.rest[n:]
}

// number cuts off a number of so many digits.
func (r *reader) number(digits int) int {
	if r.ahead() < digits {
		r.bad = true
		return 0
	}
	n := 0
	for i := range digits {
		n = n*10 + int(r.rest[i]-'0')
	}
	r.rest = r.rest[digits:]
	return n
}

// part cuts off a number of two digits that is most or below.
func (r *reader) part(most int) int {
	n := r.number(2)
	if n > most {
		r.bad = true
		return 0
	}
	return n
}

// weekday cuts a day's name off, if there is one.
func (r *reader) weekday() {
	for _, name := range weekdays {
		if r.skip(name + ", ") {
			return
		}
	}
}

// day cuts off a day of two digits, or of one.
func (r *reader) day() int {
	if r.ahead() == 1 {
		return r.number(1)
	}
	return r.number(2)
}

// month cuts a month's name off.
func (r *reader) month() int {
	for _, name := range months {
		if r.skip(name) {
			return Month(name)
		}
	}
	r.bad = true
	return 0
}

// year cuts off a year of four digits, or of two.
func (r *reader) year() int {
	if r.ahead() != 2 {
		return r.number(4)
	}
	n := r.number(2)
	if n < 50 {
		return 2000 + n
	}
	return 1900 + n
}

// hours cuts off hours and minutes, with that between, and tells their seconds.
func (r *reader) hours(between string) int {
	n := r.part(23) * hour
	r.sign(between)
	return n + r.part(59)*minute
}

// seconds cuts off the seconds that stand behind minutes.
func (r *reader) seconds() int {
	r.sign(":")
	return r.part(59)
}

// offset cuts off a sign, hours and minutes, with that between, and tells their seconds.
func (r *reader) offset(between string) int {
	if r.skip("-") {
		return -r.hours(between)
	}
	r.sign("+")
	return r.hours(between)
}

// zone cuts off a zone, which nothing follows, and tells its seconds.
func (r *reader) zone() int {
	hours := 0
	switch r.rest {
	case "GMT", "UT", "UTC", "Z":
	case "EDT":
		hours = -4
	case "EST", "CDT":
		hours = -5
	case "CST", "MDT":
		hours = -6
	case "MST", "PDT":
		hours = -7
	case "PST":
		hours = -8
	default:
		return r.offset("")
	}
	r.rest = ""
	return hours * hour
}

// date: the seconds of the date that was read: of that day, and so many seconds from its begin on; false, if it is none, or something is left.
func (r *reader) date(y, m, d, clock int) (int, bool) {
	days, there := Days(y, m, d)
	n := days*day + clock
	if r.bad || r.rest != "" || !there || n < 0 || n > api.MaxDate {
		return 0, false
	}
	return n, true
}
