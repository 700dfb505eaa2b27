package date_test

import (
	"regexp"
	"strconv"
	"strings"
	"time"

	"newsreel/api"
)

// The layer told another way: a text as a whole is held against a pattern, and the library tells the days.

var (
	form822  = regexp.MustCompile(`^(?:(?:Mon|Tue|Wed|Thu|Fri|Sat|Sun), )?([0-9]{1,2}) (Jan|Feb|Mar|Apr|May|Jun|Jul|Aug|Sep|Oct|Nov|Dec) ([0-9]{4}|[0-9]{2}) ([01][0-9]|2[0-3]):([0-5][0-9])(?::([0-5][0-9]))? (GMT|UTC?|Z|[ECMP][SD]T|[+-](?:[01][0-9]|2[0-3])[0-5][0-9])$`)
	form3339 = regexp.MustCompile(`^([0-9]{4})-([0-9]{2})-([0-9]{2})[Tt ]([01][0-9]|2[0-3]):([0-5][0-9]):([0-5][0-9])(?:\.[0-9]+)?([Zz]|[+-](?:[01][0-9]|2[0-3]):[0-5][0-9])$`)
)

// plainMonth: a month's number, by where its name stands among all.
func plainMonth(s string) int {
	const all = "|Jan|Feb|Mar|Apr|May|Jun|Jul|Aug|Sep|Oct|Nov|Dec|"
	if at := strings.Index(all, "|"+s+"|"); s != "" && !strings.Contains(s, "|") && at >= 0 {
		return at/4 + 1
	}
	return 0
}

// plainDays: by the library, which makes another day of one that isn't there.
func plainDays(y, m, d int) (int, bool) {
	if y < 1970 || y > 9999 || m < 1 || m > 12 || d < 1 || d > 31 {
		return 0, false
	}
	t := time.Date(y, time.Month(m), d, 0, 0, 0, 0, time.UTC)
	if t.Day() != d {
		return 0, false
	}
	return int(t.Unix() / 86400), true
}

// plainZone: the seconds of a zone that a pattern has let through.
func plainZone(s string) int {
	digits := strings.ReplaceAll(s[1:], ":", "")
	switch s[0] {
	case '+':
		return 3600*value(digits[:2]) + 60*value(digits[2:])
	case '-':
		return -3600*value(digits[:2]) - 60*value(digits[2:])
	case 'E', 'C', 'M', 'P':
		hours := map[byte]int{'E': 5, 'C': 6, 'M': 7, 'P': 8}[s[0]]
		if s[1] == 'D' {
			hours--
		}
		return -3600 * hours
	}
	return 0
}

// value: what digits tell; 0, if there are none.
func value(digits string) int {
	n, _ := strconv.Atoi(digits)
	return n
}

// plainSeconds: of a day, and of hours, minutes, seconds and a zone in texts.
func plainSeconds(y, m, d int, clock []string) (int, bool) {
	days, there := plainDays(y, m, d)
	n := 86400*days + 3600*value(clock[0]) + 60*value(clock[1]) + value(clock[2]) - plainZone(clock[3])
	if !there || n < 0 || n > api.MaxDate {
		return 0, false
	}
	return n, true
}

func plain822(s string) (int, bool) {
	f := form822.FindStringSubmatch(s)
	if f == nil {
		return 0, false
	}
	y := value(f[3])
	if len(f[3]) == 2 {
		y += 1900
		if y < 1950 {
			y += 100
		}
	}
	return plainSeconds(y, plainMonth(f[2]), value(f[1]), f[4:])
}

func plain3339(s string) (int, bool) {
	f := form3339.FindStringSubmatch(s)
	if f == nil {
		return 0, false
	}
	return plainSeconds(value(f[1]), value(f[2]), value(f[3]), f[4:])
}

// plainPrint: n in that form of the library; nothing, if n has no date.
func plainPrint(n int, form string) string {
	if n < 0 || n > api.MaxDate {
		return ""
	}
	return time.Unix(int64(n), 0).UTC().Format(form)
}

const (
	layout822  = "Mon, 02 Jan 2006 15:04:05 GMT"
	layout3339 = "2006-01-02T15:04:05Z"
)
