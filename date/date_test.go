package date_test

import (
	"math"
	"strconv"
	"strings"
	"testing"
	"time"

	"newsreel/api"
	"newsreel/date"
	"newsreel/sample"
)

const (
	lastDay = api.MaxDate / 86400 // the 31st of December 9999
	none    = -1                  // no date
)

var monthNames = []string{"Jan", "Feb", "Mar", "Apr", "May", "Jun", "Jul", "Aug", "Sep", "Oct", "Nov", "Dec"}

// checkRead: what f, which is that call, tells of s: want, or that it is no date.
func checkRead(t *testing.T, call string, f func(string) (int, bool), s string, want int) {
	t.Helper()
	there := want != none
	if !there {
		want = 0 // beside false
	}
	if got, ok := f(s); got != want || ok != there {
		t.Errorf("%s(%.100q): %d, %v, not %d, %v", call, s, got, ok, want, there)
	}
}

func check822(t *testing.T, s string, want int) {
	t.Helper()
	checkRead(t, "Rfc822", date.Rfc822, s, want)
}

func check3339(t *testing.T, s string, want int) {
	t.Helper()
	checkRead(t, "Rfc3339", date.Rfc3339, s, want)
}

// checkNone: s is a date in neither form.
func checkNone(t *testing.T, s string) {
	t.Helper()
	check822(t, s, none)
	check3339(t, s, none)
}

// checkAlike: both calls tell of s what the other way tells.
func checkAlike(t *testing.T, s string) {
	t.Helper()
	want, there := plain822(s)
	if !there {
		want = none
	}
	check822(t, s, want)
	want, there = plain3339(s)
	if !there {
		want = none
	}
	check3339(t, s, want)
}

func checkDays(t *testing.T, y, m, d, want int, there bool) {
	t.Helper()
	if got, ok := date.Days(y, m, d); got != want || ok != there {
		t.Errorf("Days(%d, %d, %d): %d, %v, not %d, %v", y, m, d, got, ok, want, there)
	}
}

func checkCivil(t *testing.T, n, wantY, wantM, wantD int, there bool) {
	t.Helper()
	if y, m, d, ok := date.Civil(n); y != wantY || m != wantM || d != wantD || ok != there {
		t.Errorf("Civil(%d): %d, %d, %d, %v, not %d, %d, %d, %v", n, y, m, d, ok, wantY, wantM, wantD, there)
	}
}

func checkLeap(t *testing.T, y int, want bool) {
	t.Helper()
	if got := date.Leap(y); got != want {
		t.Errorf("Leap(%d): %v", y, got)
	}
}

func checkLength(t *testing.T, y, m, want int) {
	t.Helper()
	if got := date.Length(y, m); got != want {
		t.Errorf("Length(%d, %d): %d, not %d", y, m, got, want)
	}
}

// checkPrint: both calls write these texts of n.
func checkPrint(t *testing.T, n int, want822, want3339 string) {
	t.Helper()
	if got := date.Print822(n); got != want822 {
		t.Errorf("Print822(%d): %q, not %q", n, got, want822)
	}
	if got := date.Print3339(n); got != want3339 {
		t.Errorf("Print3339(%d): %q, not %q", n, got, want3339)
	}
}

// checkWritten: n is written as the library writes it, and read again.
func checkWritten(t *testing.T, n int) {
	t.Helper()
	checkPrint(t, n, plainPrint(n, layout822), plainPrint(n, layout3339))
	check822(t, date.Print822(n), n)
	check3339(t, date.Print3339(n), n)
}

// two: n in two digits.
func two(n int) string {
	if n < 10 {
		return "0" + strconv.Itoa(n)
	}
	return strconv.Itoa(n)
}

// edges: numbers at the ends of their type, and such whose low bits alone would be small.
func edges() []int {
	return []int{math.MinInt, math.MinInt + 1, math.MinInt + 1970, -1 << 40, -1 << 32, -1<<32 + 1, -1<<32 + 1970, -1 << 31, -1<<31 - 1,
		1<<31 - 1, 1 << 31, 1 << 32, 1<<32 + 1, 1<<32 + 1970, 1 << 53, math.MaxInt - 1970, math.MaxInt - 1, math.MaxInt}
}

func TestChapter(t *testing.T) {
	check822(t, "Mon, 02 Jan 2006 15:04:05 GMT", 1136214245)
	check822(t, "2 Jan 06 10:04 EST", 1136214240)
	check3339(t, "2006-02-30T00:00:00Z", none)
	check3339(t, "2006-01-02T15:04:05Z", 1136214245)
	checkPrint(t, 1136214245, "Mon, 02 Jan 2006 15:04:05 GMT", "2006-01-02T15:04:05Z")
}

func TestOneFormIsNotTheOther(t *testing.T) {
	check3339(t, "Mon, 02 Jan 2006 15:04:05 GMT", none)
	check3339(t, "2 Jan 06 10:04 EST", none)
	check822(t, "2006-01-02T15:04:05Z", none)
	check822(t, "2006-01-02 15:04:05+00:00", none)
}

func TestNamesOfDays(t *testing.T) {
	const rest = "02 Jan 2006 15:04:05 GMT"
	check822(t, rest, 1136214245)
	for _, name := range []string{"Mon", "Tue", "Wed", "Thu", "Fri", "Sat", "Sun"} { // it isn't held against the date
		check822(t, name+", "+rest, 1136214245)
		check822(t, name+", 2 Jan 06 15:04 Z", 1136214240)
		for _, behind := range []string{"", " ", ",", ",  ", " , ", ". ", ";", ",\t", ", ,", ", " + name + ", "} {
			checkNone(t, name+behind+rest)
		}
		for _, other := range []string{strings.ToLower(name), strings.ToUpper(name), name[:2], name[1:], name + "day", name + name, name + "\x00", ""} {
			checkNone(t, other+", "+rest)
		}
		checkNone(t, " "+name+", "+rest)
		checkNone(t, name)
		checkNone(t, name+", ")
	}
	for _, ahead := range []string{"Monday, ", "Mo, ", "Abc, ", "Jan, ", "GMT, ", "0, ", "\xff, ", ", "} {
		checkNone(t, ahead+rest)
	}
}

func TestDaysOf822(t *testing.T) {
	for d, want := range map[string]int{"1": 0, "01": 0, "9": 8, "09": 8, "10": 9, "30": 29, "31": 30} {
		check822(t, d+" Jan 1970 00:00:00 GMT", want*86400)
	}
	for _, d := range []string{"", "0", "00", "32", "39", "99", "001", "010", "1a", "a1", "a", "-1", "+1", " 1", "1 ", "1.", "0x1", "\u0661", "\xff"} {
		checkNone(t, d+" Jan 1970 00:00:00 GMT")
	}
}

func TestLastDaysOfMonths(t *testing.T) {
	lengths := []int{31, 28, 31, 30, 31, 30, 31, 31, 30, 31, 30, 31}
	n := 0
	for i, name := range monthNames {
		n += lengths[i]
		for d := 0; d <= 40; d++ {
			want := (n - lengths[i] + d - 1) * 86400
			if d < 1 || d > lengths[i] {
				want = none
			}
			check822(t, two(d)+" "+name+" 1970 00:00 GMT", want)
			check3339(t, "1970-"+two(i+1)+"-"+two(d)+"T00:00:00Z", want)
		}
	}
}

func TestMonths(t *testing.T) {
	for i, name := range monthNames {
		if got := date.Month(name); got != i+1 {
			t.Errorf("Month(%q): %d", name, got)
		}
		want, _ := plainDays(2026, i+1, 5)
		check822(t, "5 "+name+" 2026 00:00 GMT", want*86400)
		check3339(t, "2026-"+two(i+1)+"-05T00:00:00Z", want*86400)
		for _, s := range []string{strings.ToLower(name), strings.ToUpper(name), name[:1], name[:2], name[1:], name[2:], name + "u", name + ".", name + " ", " " + name, name + name, name + "\x00", "\x00" + name, name[:2] + "\xff",
			strings.ToLower(name[:1]) + name[1:], name[:2] + strings.ToUpper(name[2:]), name[:1] + "\u00e1" + name[2:], name + "uary"} {
			checkNoMonth(t, s)
		}
		for _, other := range monthNames {
			checkNoMonth(t, name+other)
		}
	}
	for _, s := range []string{"", " ", "1", "01", "Abc", "January", "Sept", "Mon", "J\x00n", "JanFeb", "Jan,Feb", "\xff\xff\xff", "\xc4\xb0an", strings.Repeat("Jan", 7000)} {
		checkNoMonth(t, s)
	}
	for _, m := range []string{"00", "13", "19", "99", "1", "001", "012", "", "-1", " 1", "1 ", "a1", "1a", "\xff1"} {
		checkNone(t, "2026-"+m+"-05T00:00:00Z")
	}
}

// checkNoMonth: s is no month's name, and none in a date.
func checkNoMonth(t *testing.T, s string) {
	t.Helper()
	if got := date.Month(s); got != 0 {
		t.Errorf("Month(%.80q): %d", s, got)
	}
	checkNone(t, "5 "+s+" 2026 00:00 GMT")
}

// Month of all texts of three letters, each as the other way tells it.
func TestAllShortNames(t *testing.T) {
	const letters = "JFMASONDaebnrpyulgctov"
	for _, a := range letters {
		for _, b := range letters {
			for _, c := range letters {
				s := string([]rune{a, b, c})
				if got, want := date.Month(s), plainMonth(s); got != want {
					t.Errorf("Month(%q): %d, not %d", s, got, want)
				}
			}
		}
	}
}

func TestYearsOfTwoDigits(t *testing.T) {
	for y := range 100 {
		whole := 1900 + y
		if y < 50 {
			whole = 2000 + y
		}
		want := none
		if days, there := plainDays(whole, 3, 1); there {
			want = days * 86400
		}
		check822(t, "1 Mar "+two(y)+" 00:00 GMT", want)
		check822(t, "Sun, 01 Mar "+two(y)+" 00:00:00 +0000", want)
		if want != none {
			check822(t, "1 Mar "+strconv.Itoa(whole)+" 00:00 GMT", want)
		}
	}
	check822(t, "1 Jan 49 00:00 GMT", 2493072000) // 2049
	check822(t, "31 Dec 49 23:59:59 GMT", 2524607999)
	check822(t, "1 Jan 50 00:00 GMT", none) // 1950
	check822(t, "31 Dec 69 23:59:59 GMT", none)
	check822(t, "1 Jan 70 00:00 GMT", 0)
	check822(t, "1 Jan 99 00:00 GMT", 915148800)
	check822(t, "1 Jan 00 00:00 GMT", 946684800)
}

func TestYearsOfFourDigits(t *testing.T) {
	for y := range 10000 {
		s := strconv.Itoa(10000 + y)[1:]
		want := none
		if days, there := plainDays(y, 7, 4); there {
			want = days*86400 + 47655
		}
		check822(t, "4 Jul "+s+" 13:14:15 GMT", want)
		check3339(t, s+"-07-04T13:14:15Z", want)
	}
	check822(t, "1 Jan 1970 00:00 GMT", 0)
	check822(t, "31 Dec 1969 23:59:59 GMT", none)
	check822(t, "31 Dec 9999 23:59:59 GMT", api.MaxDate)
	check822(t, "1 Jan 0049 00:00 GMT", none) // the year 49, not 2049
	check822(t, "1 Jan 0099 00:00 GMT", none)
	check3339(t, "1970-01-01T00:00:00Z", 0)
	check3339(t, "1969-12-31T23:59:59Z", none)
	check3339(t, "9999-12-31T23:59:59Z", api.MaxDate)
}

func TestYearsOfOtherDigits(t *testing.T) {
	for _, y := range []string{"", "6", "006", "026", "206", "970", "999", "02026", "10000", "20260", "19700", "99999", "002026", "20 26", "2 026", "-2026", "+2026", "2026.", "2O26", "202a", "a026", "-70", "+70", "\u0662\u0660\u0662\u0666", "\xff\xff"} {
		checkNone(t, "5 Jan "+y+" 00:00 GMT")
		checkNone(t, y+"-01-05T00:00:00Z")
	}
	checkNone(t, "26-01-05T00:00:00Z")
	checkNone(t, "70-01-05T00:00:00Z")
}

// All hours, minutes and seconds, and those behind the last ones.
func TestClocks(t *testing.T) {
	for h := range 100 {
		for m := range 100 {
			want := h*3600 + m*60
			if h > 23 || m > 59 {
				want = none
			}
			clock := two(h) + ":" + two(m)
			check822(t, "1 Jan 1970 "+clock+" GMT", want)
			check822(t, "1 Jan 1970 "+clock+":00 GMT", want)
			check3339(t, "1970-01-01T"+clock+":00Z", want)
			check3339(t, "1970-01-01T"+clock+"Z", none) // seconds must be there
		}
	}
	for s := range 100 {
		want := 86340 + s
		if s > 59 {
			want = none
		}
		check822(t, "1 Jan 1970 23:59:"+two(s)+" GMT", want)
		check3339(t, "1970-01-01T23:59:"+two(s)+"Z", want)
	}
}

func TestClocksThatAreNone(t *testing.T) {
	for _, clock := range []string{"", ":", "::", "1", "12", "12:", "12:3", "1:23", "1:23:45", "12:3:45", "12:34:", "12:34:5", ":34", ":34:56", "12::56", "123:45", "12:345", "12:34:567", "012:34:56", "12:034:56", "12:34:056", "1234", "123456", "12.34.56", "12-34-56", "12:34-56", "12:34.56", "12 :34:56", "12: 34:56", "12:34 :56", "12:34: 56",
		"-1:34:56", "+1:34:56", "12:-1:56", "12:34:-1", "1a:34:56", "12:a4:56", "12:34:5a", "12:34:56:", "12:34:56:78", "12:34:56am", "\xff2:34:56", "12\xff34:56", "\u0661\u0662:34", "24:00:00", "23:60:00", "23:59:60", "99:99:99"} {
		for _, zone := range []string{"GMT", "Z", "+0000", "+00:00"} {
			checkNone(t, "1 Jan 1970 "+clock+" "+zone)
			checkNone(t, "1970-01-01T"+clock+zone)
		}
	}
}

func TestSecondsOf822AreOptional(t *testing.T) {
	check822(t, "1 Jan 1970 12:34 GMT", 45240)
	check822(t, "1 Jan 1970 12:34:00 GMT", 45240)
	check822(t, "1 Jan 1970 12:34:56 GMT", 45296)
	checkNone(t, "1 Jan 1970 12:34:56.7 GMT")
	checkNone(t, "1 Jan 1970 12:34.5 GMT")
	checkNone(t, "1 Jan 1970 12:34:56. GMT")
}

func TestZonesOf822(t *testing.T) {
	const noon = 1136203200
	for zone, hours := range map[string]int{"GMT": 0, "UT": 0, "UTC": 0, "Z": 0, "EDT": -4, "EST": -5, "CDT": -5, "CST": -6, "MDT": -6, "MST": -7, "PDT": -7, "PST": -8} {
		check822(t, "2 Jan 2006 12:00 "+zone, noon-hours*3600)
		check822(t, "Mon, 02 Jan 2006 12:00:00 "+zone, noon-hours*3600)
		check822(t, "2 Jan 2006 12:00 -"+two(-hours)+"00", noon-hours*3600)
		for _, other := range []string{strings.ToLower(zone), zone + "T", zone + " ", " " + zone, zone + "+0000", zone + "\x00", zone + "0", "(" + zone + ")", zone + zone, zone[:1] + strings.ToLower(zone[1:]) + "x"} {
			checkNone(t, "2 Jan 2006 12:00 "+other)
			checkNone(t, "2 Jan 2006 12:00:00 "+other)
		}
		if zone != "Z" {
			checkNone(t, "2006-01-02T12:00:00"+zone)
			checkNone(t, "2006-01-02T12:00:00 "+zone)
			checkNone(t, "2 Jan 2006 12:00 "+zone[:1]+strings.ToLower(zone[1:]))
		}
		if zone != "UTC" {
			checkNone(t, "2 Jan 2006 12:00 "+zone[:len(zone)-1])
		}
	}
	for _, zone := range []string{"", "z", "A", "M", "N", "Y", "U", "G", "E", "BST", "CET", "AST", "ET", "EET", "MET", "PT", "GM", "MT", "Gmt", "gmt", "GMT+1", "UTC+0000", "+", "-", "0000", "0", "\xff", "J"} {
		checkNone(t, "2 Jan 2006 12:00 "+zone)
		checkNone(t, "2 Jan 2006 12:00:00 "+zone)
	}
}

// All zones of a sign and digits, and those behind the last ones.
func TestZonesOfDigits(t *testing.T) {
	const noon = 1136203200
	for h := range 100 {
		for m := range 100 {
			east, west := noon-h*3600-m*60, noon+h*3600+m*60
			if h > 23 || m > 59 {
				east, west = none, none
			}
			check822(t, "2 Jan 2006 12:00 +"+two(h)+two(m), east)
			check822(t, "Mon, 2 Jan 06 12:00:00 -"+two(h)+two(m), west)
			check3339(t, "2006-01-02T12:00:00+"+two(h)+":"+two(m), east)
			check3339(t, "2006-01-02T12:00:00.5-"+two(h)+":"+two(m), west)
		}
	}
}

func TestZonesOfOtherDigits(t *testing.T) {
	for _, sign := range []string{"+", "-"} {
		check822(t, "2 Jan 2006 12:00 "+sign+"00:00", none) // a colon stands in the other form alone
		check3339(t, "2006-01-02T12:00:00"+sign+"0000", none)
		for _, digits := range []string{"", "0", "00", "000", "0:00", "00:0", "00:", ":00", ":", "00000", "00:000", "000:00", "00:00:00", "000000", "00 00", "00-00", "00.00", "0a00", "00:0a", "a0:00", "-100", "+100", " 0000", "0000 ", "00:00 ", "00:00Z", "0000Z", "00\xff00", "\u0660\u0660:00", "24:00", "23:60", "2400", "2360", "99:99", "9999"} {
			checkNone(t, "2 Jan 2006 12:00 "+sign+digits)
			checkNone(t, "2 Jan 2006 12:00:00 "+sign+digits)
			checkNone(t, "2006-01-02T12:00:00"+sign+digits)
			checkNone(t, "2006-01-02T12:00:00.1"+sign+digits)
		}
	}
	for _, sign := range []string{"", "++", "+-", "-+", "--", "\u2212", "\u00b1", "*", " +", "+ "} {
		checkNone(t, "2 Jan 2006 12:00 "+sign+"0000")
		checkNone(t, "2006-01-02T12:00:00"+sign+"00:00")
	}
}

// Zones that lead to the first second and to the last one, and those beyond them. The year counts as it stands.
func TestZonesAtTheEnds(t *testing.T) {
	check822(t, "1 Jan 1970 23:59 +2359", 0)
	check822(t, "1 Jan 1970 23:58:59 +2359", none)
	check822(t, "1 Jan 1970 00:00 +0000", 0)
	check822(t, "1 Jan 1970 00:00 -0000", 0)
	check822(t, "1 Jan 1970 00:00 +0001", none)
	check822(t, "1 Jan 1970 00:00:59 +0001", none)
	check822(t, "1 Jan 1970 00:01 +0001", 0)
	check822(t, "1 Jan 1970 00:00 EST", 18000)
	check822(t, "31 Dec 1969 23:59:59 EST", none) // though its second is there
	check822(t, "31 Dec 69 23:00 -0200", none)
	check822(t, "31 Dec 9999 23:59:59 GMT", api.MaxDate)
	check822(t, "31 Dec 9999 23:58:59 -0001", api.MaxDate)
	check822(t, "31 Dec 9999 23:59:00 -0001", none)
	check822(t, "31 Dec 9999 18:59:59 EST", api.MaxDate)
	check822(t, "31 Dec 9999 19:00 EST", none)
	check822(t, "31 Dec 9999 00:00:59 -2359", api.MaxDate)
	check822(t, "31 Dec 9999 00:01 -2359", none)
	check822(t, "31 Dec 9999 23:59:59 +2359", api.MaxDate-86340)
	check3339(t, "1970-01-01T23:59:00+23:59", 0)
	check3339(t, "1970-01-01T23:58:59.9+23:59", none)
	check3339(t, "1970-01-01T00:00:00-00:00", 0)
	check3339(t, "1970-01-01T00:00:59+00:01", none)
	check3339(t, "1970-01-01T00:01:00+00:01", 0)
	check3339(t, "1969-12-31T23:00:00-02:00", none)
	check3339(t, "9999-12-31T23:59:59.999999999999Z", api.MaxDate)
	check3339(t, "9999-12-31T23:58:59-00:01", api.MaxDate)
	check3339(t, "9999-12-31T23:59:00-00:01", none)
	check3339(t, "9999-12-31T00:00:59-23:59", api.MaxDate)
	check3339(t, "9999-12-31T00:01:00-23:59", none)
	check3339(t, "9999-12-31T23:59:59+23:59", api.MaxDate-86340)
	check3339(t, "0000-01-01T00:00:00Z", none)
	check3339(t, "2006-01-01T00:30:00+01:00", 1136071800) // a day of the year before
}

func TestLetterT(t *testing.T) {
	for _, ahead := range []string{"T", "t", " "} {
		for _, behind := range []string{"Z", "z", "+00:00", "-00:00"} {
			check3339(t, "2006-01-02"+ahead+"15:04:05"+behind, 1136214245)
			check3339(t, "2006-01-02"+ahead+"15:04:05.67"+behind, 1136214245)
		}
	}
	for _, ahead := range []string{"", "  ", "TT", "Tt", " T", "T ", "U", "s", "_", "\t", "\n", "\u00a0", "\xa0", "\x00", "-", ":", "+", "\xff"} {
		checkNone(t, "2006-01-02"+ahead+"15:04:05Z")
	}
	for _, behind := range []string{"", "ZZ", "zZ", "Zz", " Z", "Z ", " z", "Y", "GMT", "UT", "UTC", "EST", "\x00", "Z\x00", "+", "-", "Z+00:00", "+00:00Z", "\xff", "T"} {
		checkNone(t, "2006-01-02T15:04:05"+behind)
		checkNone(t, "2006-01-02T15:04:05.6"+behind)
	}
}

func TestPointAndDigits(t *testing.T) {
	for _, digits := range []string{"0", "5", "9", "00", "000000", "123", "999", "999999999", "0123456789", strings.Repeat("9", 400)} {
		check3339(t, "2006-01-02T15:04:05."+digits+"Z", 1136214245)
		check3339(t, "2006-01-02t15:04:05."+digits+"+00:00", 1136214245)
		check3339(t, "2006-01-02 15:04:59."+digits+"z", 1136214299)
	}
	for _, point := range []string{".", "..", "..5", ".5.", ".5.5", ". 5", ".5 ", " .5", ".a", ".5a", ".-5", ".+5", ",5", ",", ":5", "5", ".\u0665", ".5\u0665", ".\xff", ".\x00", ".e5", ".0x5", "._5", ".5_5"} {
		checkNone(t, "2006-01-02T15:04:05"+point+"Z")
		checkNone(t, "2006-01-02T15:04:05"+point+"-01:00")
	}
	checkNone(t, "2006-01-02T15:04.5Z")
	checkNone(t, "2006-01-02T15.5:04:05Z")
	checkNone(t, "2006-01-02T15:04:60.5Z")
}

func TestSignsOf3339(t *testing.T) {
	for _, s := range []string{"2006-1-02T15:04:05Z", "2006-01-2T15:04:05Z", "2006-001-02T15:04:05Z", "2006-01-002T15:04:05Z", "20060102T150405Z", "2006-0102T15:04:05Z", "200601-02T15:04:05Z", "2006/01/02T15:04:05Z", "2006:01:02T15:04:05Z", "2006--01-02T15:04:05Z", "2006-01--02T15:04:05Z", "2006-01-02-T15:04:05Z", "-2006-01-02T15:04:05Z", "+2006-01-02T15:04:05Z", "2006- 1-02T15:04:05Z", "2006-01- 2T15:04:05Z",
		"2006-01-02", "2006-01-02Z", "2006-01-02T", "2006-01-02T15Z", "15:04:05Z", "T15:04:05Z", "2006-01-02T15:04:05", "2006-01T15:04:05Z", "2006-Jan-02T15:04:05Z", "2006\u20111-02T15:04:05Z", "Mon, 2006-01-02T15:04:05Z"} {
		checkNone(t, s)
	}
}

func TestBlanks(t *testing.T) {
	goods := []string{"Mon, 02 Jan 2006 15:04:05 GMT", "2 Jan 06 10:04 EST", "2 Jan 06 10:04 +0100", "2006-01-02T15:04:05Z", "2006-01-02 15:04:05.6-07:00"}
	for _, good := range goods {
		for _, blank := range []string{" ", "  ", "\t", "\n", "\r", "\v", "\f", "\u00a0", "\xc2", "\xa0", "\x00", "\ufeff", "\u2003", ",", "_"} {
			checkNone(t, blank+good)
			checkNone(t, good+blank)
			for i := range good {
				if good[i] != ' ' {
					continue
				}
				checkNone(t, good[:i]+" "+blank+good[i+1:])
				checkNone(t, good[:i]+blank+" "+good[i+1:])
				if blank != " " {
					checkNone(t, good[:i]+blank+good[i+1:])
				}
			}
		}
		if bare := strings.ReplaceAll(good, " ", ""); bare != good {
			checkNone(t, bare)
		}
		for i := range good {
			if good[i] == ' ' {
				checkNone(t, good[:i]+good[i+1:])
			}
			checkNone(t, good[:i]+" "+good[i:])
		}
		for _, behind := range []string{"x", "0", "Z", "GMT", " (comment)", " GMT", "+0000", ".", "\xff", good} {
			checkNone(t, good+behind)
		}
	}
}

// goodDates: dates of both forms, of all shapes.
func goodDates() []string {
	l := []string{}
	for _, day := range []string{"", "Mon, ", "Sat, "} {
		for _, d := range []string{"2", "02", "29"} {
			for _, y := range []string{"2006", "06", "99", "9999"} {
				for _, rest := range []string{" 15:04:05 GMT", " 15:04 UTC", " 00:00:00 PST", " 23:59 -0730", " 03:00 Z"} {
					l = append(l, day+d+" Oct "+y+rest)
				}
			}
		}
	}
	for _, day := range []string{"2006-01-02", "9999-12-31", "1970-01-01", "2000-02-29"} {
		for _, between := range []string{"T", "t", " "} {
			for _, clock := range []string{"15:04:05", "00:00:00", "23:59:59.25"} {
				for _, zone := range []string{"Z", "z", "+00:00", "-11:59"} {
					l = append(l, day+between+clock+zone)
				}
			}
		}
	}
	return l
}

func TestBeginningsOfGoodDates(t *testing.T) {
	for _, s := range goodDates() {
		for i := range s {
			if strings.HasSuffix(s, " UTC") && i == len(s)-1 {
				checkAlike(t, s[:i]) // UT is a zone, too
			} else {
				checkNone(t, s[:i])
			}
			if i > 0 {
				checkAlike(t, s[i:])
			}
		}
	}
	checkNone(t, "")
	check822(t, "2 Jan 06 15:04 UT", 1136214240)
}

// Each byte at each place of good dates, instead of what stands there, and beside it; and with one byte less.
func TestChangedDates(t *testing.T) {
	for turn, s := range goodDates() {
		checkAlike(t, s)
		for i := range len(s) + 1 {
			for c := range 256 {
				if turn%10 > 0 && c != turn*7%256 && !strings.ContainsRune(" 0159:+-Zz", rune(c)) {
					continue
				}
				checkAlike(t, s[:i]+string([]byte{byte(c)})+s[i:])
				if i < len(s) {
					checkAlike(t, s[:i]+string([]byte{byte(c)})+s[i+1:])
				}
			}
			if i < len(s) {
				checkAlike(t, s[:i]+s[i+1:])
			}
		}
		if t.Failed() {
			return
		}
	}
}

func TestMixedDates(t *testing.T) {
	pick := func(m uint64, l ...string) string { return l[m%uint64(len(l))] }
	good := 0
	for _, m := range sample.Mixed(60000) {
		d, hour, min, sec := int(m>>8%33), int(m>>16%26), int(m>>24%63), int(m>>32%63)
		y, zone := strconv.Itoa(1960+int(m>>40%8050)), two(int(m>>20%25))+pick(m>>50, "", ":", ":")+two(int(m>>28%62))
		clock := two(hour) + ":" + two(min)
		s := pick(m>>3, "", "", "Fri, ", "Fri,") + strconv.Itoa(d) + " " + pick(m>>45, monthNames...) + " " + pick(m>>5, y, y[2:], y[1:]) + " " + clock + pick(m>>6, "", ":"+two(sec)) + " " + pick(m>>52, "GMT", "EDT", "+0130", "-2359", "+"+zone, "EET")
		checkAlike(t, s)
		if _, ok := date.Rfc822(s); ok {
			good++
		}
		s = y + "-" + two(int(m>>44%14)) + "-" + two(d) + pick(m>>3, "T", "t", " ") + clock + ":" + two(sec) + pick(m>>5, "", ".5", ".00", ".") + pick(m>>52, "Z", "z", "+"+zone, "-"+zone)
		checkAlike(t, s)
		if _, ok := date.Rfc3339(s); ok {
			good++
		}
	}
	if good < 10000 {
		t.Errorf("of mixed dates only %d are good", good)
	}
}

func TestMixedTexts(t *testing.T) {
	parts := []string{"Mon, ", "2", "02", " ", "Jan", " 2006 ", "06", "15", ":", "04", ":05", " GMT", "Z", "+", "-", "0100", "01:00", "2006-", "01-", "T", ".", "5", "\xff", "\u0665", "\x00", "15:04:05", "2006-01-02", "2 Jan 06 "}
	for _, s := range sample.Texts(parts, 200000, 9) {
		checkAlike(t, s)
	}
}

func TestLongTexts(t *testing.T) {
	const n = 20000
	digits, blanks := strings.Repeat("7", n), strings.Repeat(" ", n)
	check3339(t, "2006-01-02T15:04:05."+digits+"Z", 1136214245)
	check3339(t, "2006-01-02T15:04:05."+digits+"+01:00", 1136210645)
	checkNone(t, "2006-01-02T15:04:05."+digits)
	checkNone(t, "2006-01-02T15:04:05."+digits+" Z")
	checkNone(t, "2006-01-02T15:04:05."+digits+".Z")
	for _, part := range []string{digits, blanks, strings.Repeat("0", n), strings.Repeat("Mon, ", n/5), strings.Repeat("2 ", n/2), strings.Repeat(":", n), strings.Repeat("+", n), strings.Repeat("Z", n), strings.Repeat("\xff", n), strings.Repeat("\u0660", n/2)} {
		checkNone(t, part)
		checkNone(t, part+"Mon, 02 Jan 2006 15:04:05 GMT")
		checkNone(t, "Mon, 02 Jan 2006 15:04:05 GMT"+part)
		checkNone(t, "Mon, "+part+" Jan 2006 15:04:05 GMT")
		checkNone(t, "Mon, 02"+part+" 2006 15:04:05 GMT")
		checkNone(t, "Mon, 02 Jan "+part+" 15:04:05 GMT")
		checkNone(t, "Mon, 02 Jan 2006 "+part+" GMT")
		checkNone(t, "Mon, 02 Jan 2006 15:04:05 +"+part)
		checkNone(t, part+"2006-01-02T15:04:05Z")
		checkNone(t, "2006-01-02T15:04:05Z"+part)
		checkNone(t, "2006-01-02T"+part+"Z")
		checkNone(t, "2006-01-02T15:04:05+"+part)
		if got := date.Month(part); got != 0 {
			t.Errorf("Month(%.20q): %d", part, got)
		}
	}
}

func TestAnyBytes(t *testing.T) {
	for c := range 256 {
		s := string([]byte{byte(c)})
		checkNone(t, s)
		checkNone(t, s+s)
		checkNone(t, strings.Repeat(s, 20))
		checkNone(t, strings.Repeat(s, 29))
	}
}

func TestLeap(t *testing.T) {
	for _, y := range []int{-800, -400, -396, -104, -8, -4, 0, 4, 8, 96, 104, 400, 1600, 1904, 1968, 1972, 1976, 1996, 2000, 2004, 2024, 2096, 2104, 2400, 9996, 10000} {
		checkLeap(t, y, true)
	}
	for _, y := range []int{-401, -399, -300, -200, -100, -5, -3, -2, -1, 1, 2, 3, 5, 99, 100, 200, 300, 1700, 1800, 1900, 1969, 1970, 1971, 1973, 1999, 2001, 2023, 2025, 2026, 2100, 2200, 2300, 2500, 9900, 9999} {
		checkLeap(t, y, false)
	}
	checkLeap(t, math.MinInt, true) // it ends with 808
	checkLeap(t, math.MinInt+1, false)
	checkLeap(t, math.MinInt+8, false) // with 5800: 100 divides it, 400 doesn't
	checkLeap(t, math.MinInt+208, true)
	checkLeap(t, math.MaxInt, false)
	checkLeap(t, math.MaxInt-1, false)
	checkLeap(t, math.MaxInt-3, true)
	checkLeap(t, math.MaxInt-7, false)
	checkLeap(t, math.MaxInt-207, true)
}

// Leap of a long row of years, each counted on from the one 400 years ahead of it, and against the library.
func TestLeapOfManyYears(t *testing.T) {
	for y := -4000; y <= 12000; y++ {
		last := time.Date(y, 3, 0, 0, 0, 0, 0, time.UTC).Day() // the day ahead of the first of March
		checkLeap(t, y, last == 29)
		if date.Leap(y) != date.Leap(y+400) {
			t.Errorf("%d isn't as %d", y, y+400)
		}
	}
}

func TestLength(t *testing.T) {
	lengths := []int{31, 28, 31, 30, 31, 30, 31, 31, 30, 31, 30, 31}
	years := append(edges(), -400, -100, -4, -1, 0, 1, 4, 100, 400, 1900, 1969, 1970, 1972, 2000, 2026, 2100, 2400, 9999, 10000)
	for _, y := range years {
		for i, want := range lengths {
			if i == 1 && date.Leap(y) {
				want = 29
			}
			checkLength(t, y, i+1, want)
		}
		for _, m := range append(edges(), -12, -2, -1, 0, 13, 14, 24, 256+2, 1<<16+2, 1<<32+2) {
			checkLength(t, y, m, 0)
		}
	}
	checkLength(t, 1900, 2, 28)
	checkLength(t, 2000, 2, 29)
	checkLength(t, 0, 2, 29)
	checkLength(t, -4, 2, 29)
	checkLength(t, -100, 2, 28)
}

// The 29th of February, and the days beside it, of years that have it and of those that don't.
func TestEndsOfFebruary(t *testing.T) {
	for y, n := range map[int]int{1972: 788, 2000: 11015, 2100: 47540, 2400: 157112} {
		there := y != 2100
		checkDays(t, y, 2, 28, n, true)
		first := n + 1
		want := none
		if there {
			checkDays(t, y, 2, 29, n+1, true)
			checkCivil(t, n+1, y, 2, 29, true)
			first, want = n+2, (n+1)*86400
		} else {
			checkDays(t, y, 2, 29, 0, false)
		}
		checkDays(t, y, 2, 30, 0, false)
		checkDays(t, y, 3, 1, first, true)
		checkCivil(t, n, y, 2, 28, true)
		checkCivil(t, first, y, 3, 1, true)
		s := strconv.Itoa(y)
		check822(t, "28 Feb "+s+" 00:00 GMT", n*86400)
		check822(t, "29 Feb "+s+" 00:00 GMT", want)
		check822(t, "30 Feb "+s+" 00:00 GMT", none)
		check822(t, "1 Mar "+s+" 00:00 GMT", first*86400)
		check3339(t, s+"-02-28T00:00:00Z", n*86400)
		check3339(t, s+"-02-29T00:00:00Z", want)
		check3339(t, s+"-02-30T00:00:00Z", none)
		check3339(t, s+"-03-01T00:00:00Z", first*86400)
		for at := n*86400 - 1; at <= (n+3)*86400; at += 43200 {
			checkWritten(t, at)
			checkWritten(t, at+1)
		}
	}
}

func TestFirstAndLastDays(t *testing.T) {
	checkDays(t, 1970, 1, 1, 0, true)
	checkDays(t, 1970, 1, 2, 1, true)
	checkDays(t, 1970, 12, 31, 364, true)
	checkDays(t, 1971, 1, 1, 365, true)
	checkDays(t, 1973, 1, 1, 1096, true)
	checkDays(t, 9999, 12, 31, lastDay, true)
	checkDays(t, 9999, 12, 30, lastDay-1, true)
	checkDays(t, 1969, 12, 31, 0, false)
	checkDays(t, 1969, 1, 1, 0, false)
	checkDays(t, 10000, 1, 1, 0, false)
	checkDays(t, 1970, 1, 0, 0, false)
	checkDays(t, 1970, 0, 1, 0, false)
	checkDays(t, 9999, 12, 32, 0, false)
	checkDays(t, 9999, 13, 1, 0, false)
	checkCivil(t, 0, 1970, 1, 1, true)
	checkCivil(t, 1, 1970, 1, 2, true)
	checkCivil(t, 364, 1970, 12, 31, true)
	checkCivil(t, 365, 1971, 1, 1, true)
	checkCivil(t, lastDay, 9999, 12, 31, true)
	checkCivil(t, lastDay-1, 9999, 12, 30, true)
	checkCivil(t, -1, 0, 0, 0, false)
	checkCivil(t, lastDay+1, 0, 0, 0, false)
	checkCivil(t, -lastDay, 0, 0, 0, false)
	checkCivil(t, api.MaxDate, 0, 0, 0, false)
}

func TestDaysAndCivilOfEdges(t *testing.T) {
	odd := append(edges(), -1, 0, 1, 12, 13, 31, 32, 1970, 9999)
	for _, x := range odd {
		for _, y := range odd {
			want, there := plainDays(2000, x, y)
			checkDays(t, 2000, x, y, want, there)
			want, there = plainDays(x, 2, y)
			checkDays(t, x, 2, y, want, there)
			want, there = plainDays(x, y, 1)
			checkDays(t, x, y, 1, want, there)
		}
	}
	for _, n := range edges() {
		if n < 0 || n > lastDay {
			checkCivil(t, n, 0, 0, 0, false)
		}
	}
}

// Each day's number goes there and back; the next day has the next number.
func TestAllDays(t *testing.T) {
	next := 0
	for y := 1970; y <= 9999; y++ {
		for m := 1; m <= 12; m++ {
			for d := 1; d <= date.Length(y, m); d++ {
				checkDays(t, y, m, d, next, true)
				checkCivil(t, next, y, m, d, true)
				next++
			}
			checkDays(t, y, m, 0, 0, false)
			checkDays(t, y, m, date.Length(y, m)+1, 0, false)
		}
		if t.Failed() {
			return
		}
	}
	if next != lastDay+1 {
		t.Errorf("%d days", next)
	}
}

func TestDaysAreTheLibrarys(t *testing.T) {
	for n := 0; n <= lastDay; n += 5 {
		at := time.Unix(int64(n)*86400, 0).UTC()
		checkCivil(t, n, at.Year(), int(at.Month()), at.Day(), true)
		if t.Failed() {
			return
		}
	}
	for y := 1965; y < 2405; y++ {
		for m := -1; m < 15; m++ {
			for d := -1; d < 34; d++ {
				want, there := plainDays(y, m, d)
				checkDays(t, y, m, d, want, there)
			}
		}
	}
}

func TestPrint(t *testing.T) {
	checkPrint(t, 0, "Thu, 01 Jan 1970 00:00:00 GMT", "1970-01-01T00:00:00Z")
	checkPrint(t, 86399, "Thu, 01 Jan 1970 23:59:59 GMT", "1970-01-01T23:59:59Z")
	checkPrint(t, 86400, "Fri, 02 Jan 1970 00:00:00 GMT", "1970-01-02T00:00:00Z")
	checkPrint(t, 2678399, "Sat, 31 Jan 1970 23:59:59 GMT", "1970-01-31T23:59:59Z")
	checkPrint(t, 2678400, "Sun, 01 Feb 1970 00:00:00 GMT", "1970-02-01T00:00:00Z")
	checkPrint(t, 31535999, "Thu, 31 Dec 1970 23:59:59 GMT", "1970-12-31T23:59:59Z")
	checkPrint(t, 31536000, "Fri, 01 Jan 1971 00:00:00 GMT", "1971-01-01T00:00:00Z")
	checkPrint(t, 951782400, "Tue, 29 Feb 2000 00:00:00 GMT", "2000-02-29T00:00:00Z")
	checkPrint(t, api.MaxDate-1, "Fri, 31 Dec 9999 23:59:58 GMT", "9999-12-31T23:59:58Z")
	checkPrint(t, api.MaxDate, "Fri, 31 Dec 9999 23:59:59 GMT", "9999-12-31T23:59:59Z")
}

func TestPrintOfNoDate(t *testing.T) {
	for _, n := range append(edges(), -86401, -86400, -86399, -60, -2, -1, api.MaxDate+1, api.MaxDate+2, api.MaxDate+86400, 2*api.MaxDate, -api.MaxDate) {
		if n < 0 || n > api.MaxDate {
			checkPrint(t, n, "", "")
		} else {
			checkWritten(t, n)
		}
	}
}

// P13.4: the first and the last second of months, each second of a day, and mixed ones are written as the library writes them, and read.
func TestWrittenIsRead(t *testing.T) {
	for y := 1970; y <= 9999; y += 1 + y%3 {
		for m := 1; m <= 12; m++ {
			n, _ := plainDays(y, m, 1)
			for _, at := range []int{n*86400 - 1, n * 86400, n*86400 + 1} {
				if at >= 0 {
					checkWritten(t, at)
				}
			}
		}
	}
	for n := range 90000 { // each second of a day, and some behind it
		checkWritten(t, n)
	}
	for n := range 800 {
		checkWritten(t, n*86400+n*61)
		checkWritten(t, api.MaxDate-n*86400)
	}
	for _, m := range sample.Mixed(30000) {
		checkWritten(t, int(m>>1%(api.MaxDate+1)))
	}
	checkWritten(t, 0)
	checkWritten(t, api.MaxDate)
}

// The other way round: what was read of a text that the library wrote is written as it stood.
func TestReadIsWritten(t *testing.T) {
	for _, m := range sample.Mixed(20000) {
		at := time.Unix(int64(m>>1%(api.MaxDate+1)), 0).UTC()
		s := at.Format(layout822)
		if n, ok := date.Rfc822(s); !ok || date.Print822(n) != s {
			t.Errorf("%q: %d, %v, %q", s, n, ok, date.Print822(n))
		}
		s = at.Format(layout3339)
		if n, ok := date.Rfc3339(s); !ok || date.Print3339(n) != s {
			t.Errorf("%q: %d, %v, %q", s, n, ok, date.Print3339(n))
		}
	}
}

// One call after another: what was asked before counts for nothing.
func TestCallsHangOnTheirArguments(t *testing.T) {
	for range 3 {
		check822(t, "2 Jan 06 10:04 EST", 1136214240)
		checkNone(t, "2 Jan 06 10:04 ES")
		check3339(t, "2006-01-02T15:04:05Z", 1136214245)
		checkNone(t, "2006-01-02T15:04:05")
		checkPrint(t, -1, "", "")
		checkPrint(t, 0, "Thu, 01 Jan 1970 00:00:00 GMT", "1970-01-01T00:00:00Z")
		checkCivil(t, -1, 0, 0, 0, false)
		checkDays(t, 1970, 1, 1, 0, true)
	}
}

func FuzzDate(f *testing.F) {
	for i, s := range goodDates() {
		f.Add(s, i*1000003)
	}
	f.Fuzz(func(t *testing.T, s string, n int) {
		checkAlike(t, s)
		if got, want := date.Month(s), plainMonth(s); got != want {
			t.Errorf("Month(%q): %d, not %d", s, got, want)
		}
		if n < 0 || n > api.MaxDate {
			checkPrint(t, n, "", "")
			return
		}
		checkWritten(t, n)
	})
}

func TestLettersInNames(t *testing.T) {
	for _, good := range []string{"Mon, 02 Jan 2006 15:04:05 GMT", "2 Aug 06 10:04 EST"} {
		for i := range good {
			for _, other := range []string{strings.ToLower(good[i : i+1]), strings.ToUpper(good[i : i+1])} {
				if other != good[i:i+1] {
					checkNone(t, good[:i]+other+good[i+1:])
				}
			}
		}
		checkNone(t, strings.ToLower(good))
		checkNone(t, strings.ToUpper(good))
	}
}
