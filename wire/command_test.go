package wire_test

import (
	"math"
	"slices"
	"testing"

	"newsreel/api"
	"newsreel/sample"
	"newsreel/wire"
)

// full: a command of that Kind, all fields full.
func full(kind int) api.Command {
	return api.Command{Kind: kind, Feed: "feed", Guid: "guid", Doc: "<rss/>", N: 5, Filter: 3, Cursor: "\x00\xffcursor"}
}

// commands: of each Kind some, by what each field may be.
func commands() []api.Command {
	var l []api.Command
	for kind := 1; kind <= 10; kind++ {
		l = append(l, full(kind), api.Command{Kind: kind})
		for _, s := range []string{"a", "\x00", "\xff\xfe", text(24), text(25), text(63), text(64), text(256), text(257), text(9000)} {
			for _, c := range []api.Command{{Feed: s}, {Guid: s}, {Doc: s}, {Cursor: s}, {Feed: s, Guid: s, Doc: s, Cursor: s}} {
				c.Kind = kind
				l = append(l, c)
			}
		}
		for _, n := range []int{1, -1, 63, 64, -64, -65, 127, 128, 1 << 53, math.MaxInt, math.MaxInt - 1, math.MinInt, math.MinInt + 1} {
			for _, c := range []api.Command{{N: n}, {Filter: n}, {N: n, Filter: -n}, {N: n, Filter: n, Feed: "f", Guid: "g", Doc: "d", Cursor: "c"}} {
				c.Kind = kind
				l = append(l, c)
			}
		}
	}
	return l
}

// noKinds: numbers that are no Kind, those whose lowest byte alone is one among them.
func noKinds() []int {
	l := []int{0, 11, 12, 127, 128, 255, 256, 257, 258, 260, 263, 264, 265, 266, 267, 511, 512, 519, 522, -1, -2, -10, -245, -246, -249, -255, -256, -257,
		1 << 31, 1<<31 + 7, 1 << 32, 1<<32 + 1, 1<<32 + 7, 1<<32 + 10, -1 << 31, -1 << 32, -1<<32 + 7,
		math.MaxInt, math.MaxInt - 1, math.MaxInt - 248, math.MinInt, math.MinInt + 1, math.MinInt + 7, math.MinInt + 10}
	for n := 11; n < 256; n++ {
		l = append(l, n)
	}
	return l
}

// checkCommand: want is the bytes of c, and they are read so: all that doesn't count zero.
func checkCommand(t *testing.T, c api.Command, want string) {
	t.Helper()
	if s := plainCommand(c); s != want {
		t.Errorf("the other way of %v: %x, not %x", fewOf(c), few(s), few(want))
	}
	if got := wire.Command(c); got != want {
		t.Errorf("Command(%v): %x, not %x", fewOf(c), few(got), few(want))
	}
	checkReadCommand(t, want, counted(c))
}

// checkReadCommand: of s that command is read.
func checkReadCommand(t *testing.T, s string, want api.Command) {
	t.Helper()
	if got, code := wire.ReadCommand(s); got != want || code != api.OK {
		t.Errorf("ReadCommand(%x): %v, %v, not %v", few(s), fewOf(got), code, fewOf(want))
	}
}

// checkNoCommand: s isn't read, for that Code.
func checkNoCommand(t *testing.T, s string, want api.Code) {
	t.Helper()
	if got, code := wire.ReadCommand(s); got != (api.Command{}) || code != want {
		t.Errorf("ReadCommand of %d bytes, %x: %v, %v, not %v", len(s), few(s), fewOf(got), code, want)
	}
}

// checkCommandAsOther: of s that is read that the other way reads; what is read, written again, is the same bytes.
func checkCommandAsOther(t *testing.T, s string) {
	t.Helper()
	want, code := plainReadCommand(s)
	if code != api.OK {
		checkNoCommand(t, s, code)
		return
	}
	checkReadCommand(t, s, want)
	if got := wire.Command(want); got != s {
		t.Errorf("Command(%v): %x, not %x", fewOf(want), few(got), few(s))
	}
}

// fewOf: c, its texts' begins.
func fewOf(c api.Command) api.Command {
	c.Feed, c.Guid, c.Doc, c.Cursor = shown(c.Feed), shown(c.Guid), shown(c.Doc), shown(c.Cursor)
	return c
}

func TestCommand(t *testing.T) {
	for _, row := range []struct {
		command api.Command
		bytes   string
	}{
		{full(1), "01 08 66656564"},
		{full(2), "02 08 66656564"},
		{full(3), "03 08 66656564 0c 3c7273732f3e"},
		{full(4), "04 0a"},
		{full(5), "05 08 66656564 08 67756964"},
		{full(6), "06 08 66656564 08 67756964"},
		{full(7), "07"},
		{full(8), "08 06 0a 10 00ff637572736f72"},
		{full(9), "09 08 66656564 08 67756964"},
		{full(10), "0a"},
		{api.Command{Kind: 1}, "01 00"},
		{api.Command{Kind: 3}, "03 00 00"},
		{api.Command{Kind: 3, Doc: "x"}, "03 00 02 78"},
		{api.Command{Kind: 3, Feed: "x"}, "03 02 78 00"},
		{api.Command{Kind: 4}, "04 00"},
		{api.Command{Kind: 4, N: -1}, "04 01"},
		{api.Command{Kind: 4, N: 128}, "04 8002"},
		{api.Command{Kind: 4, N: math.MaxInt}, "04 feffffffffffffffff01"},
		{api.Command{Kind: 4, N: math.MinInt}, "04 ffffffffffffffffff01"},
		{api.Command{Kind: 5}, "05 00 00"},
		{api.Command{Kind: 6, Feed: "a", Guid: ""}, "06 02 61 00"},
		{api.Command{Kind: 9, Guid: "a"}, "09 00 02 61"},
		{api.Command{Kind: 8}, "08 00 00 00"},
		{api.Command{Kind: 8, Filter: 1}, "08 02 00 00"},
		{api.Command{Kind: 8, N: 1}, "08 00 02 00"},
		{api.Command{Kind: 8, Cursor: "\x01"}, "08 00 00 02 01"},
		{api.Command{Kind: 8, Filter: math.MinInt, N: math.MaxInt}, "08 ffffffffffffffffff01 feffffffffffffffff01 00"},
	} {
		checkCommand(t, row.command, bytesOf(row.bytes))
	}
}

func TestCommandOfEachKind(t *testing.T) {
	for _, c := range commands() {
		checkCommand(t, c, plainCommand(c))
	}
}

// What doesn't count isn't written, and is zero behind the reading.
func TestWhatDoesNotCount(t *testing.T) {
	for _, c := range commands() {
		if got, want := wire.Command(c), wire.Command(counted(c)); got != want {
			t.Errorf("Command(%v): %x, not %x", fewOf(c), few(got), few(want))
		}
		if got, code := wire.ReadCommand(wire.Command(c)); got != counted(c) || code != api.OK {
			t.Errorf("%v, there and back: %v, %v", fewOf(c), fewOf(got), code)
		}
	}
}

// Of a Kind that is none the lowest byte stands alone; it is read as what it is: another Kind's, if that one has nothing else.
func TestKindsThatAreNone(t *testing.T) {
	for _, kind := range noKinds() {
		want := string([]byte{byte(kind)})
		for _, c := range []api.Command{full(kind), {Kind: kind}} {
			if got := wire.Command(c); got != want || plainCommand(c) != want {
				t.Errorf("Command(%v): %x, not %x", c, got, want)
			}
		}
		if low := kind & 255; low == 7 || low == 10 {
			checkReadCommand(t, want, api.Command{Kind: low})
		} else {
			checkNoCommand(t, want, api.ErrForm)
		}
	}
}

// Each first byte, ahead of what stands behind a Kind.
func TestReadCommandOfEachFirstByte(t *testing.T) {
	for kind := range 256 {
		first := string([]byte{byte(kind)})
		for own := 1; own <= 10; own++ {
			for _, c := range []api.Command{full(own), {Kind: own}} {
				s := first + wire.Command(c)[1:]
				checkCommandAsOther(t, s)
				if kind < 1 || kind > 10 {
					checkNoCommand(t, s, api.ErrForm)
				}
			}
		}
	}
}

// What stops within a command, and what has bytes behind it, is none.
func TestReadCommandOfMoreAndLess(t *testing.T) {
	checkNoCommand(t, "", api.ErrForm)
	for _, c := range commands() {
		s := wire.Command(c)
		for i := range min(len(s), 300) {
			checkNoCommand(t, s[:i], api.ErrForm)
			checkNoCommand(t, s[:len(s)-1-i], api.ErrForm)
		}
		for _, behind := range behinds()[1:] {
			checkNoCommand(t, s+behind, api.ErrForm)
		}
		checkNoCommand(t, s+s, api.ErrForm)
		checkNoCommand(t, "\x00"+s, api.ErrForm)
		checkNoCommand(t, "\xff"+s, api.ErrForm)
	}
}

// badNumbers: bytes that are no number's, where those of n should stand.
func badNumbers(n int) []string {
	return append(longer(plainInt(n)), repeat("\x80", 9)+"\x02", repeat("\xff", 9)+"\x7f", repeat("\x80", 10)+"\x01", repeat("\xff", 20))
}

// openNumbers: bytes that are a number's or none's by what stands behind.
func openNumbers() []string { return []string{"", "\x80", "\xff\xff"} }

// badSizes: lengths and counts that are too small or too great where n is right.
func badSizes(n int) []int {
	return []int{-1, -2, -n - 1, -n - 2, n + 1, n + 2, n + 100000, n + 1<<31, n + 1<<32, n + 1<<62, math.MaxInt - 1, math.MaxInt, math.MinInt, math.MinInt + n, math.MinInt + 1}
}

func TestReadCommandOfBadParts(t *testing.T) {
	for kind := 1; kind <= 10; kind++ {
		for _, c := range []api.Command{full(kind), {Kind: kind}, {Kind: kind, Feed: text(100), Guid: text(300), Doc: text(70), N: -70, Filter: 1 << 40, Cursor: text(64)}} {
			parts := commandParts(c)
			for i, p := range parts {
				if p.kind == "bytes" {
					continue
				}
				bad := slices.Clone(parts)
				for _, s := range badNumbers(p.n) {
					bad[i].bytes = s
					checkNoCommand(t, joined(bad), api.ErrForm)
				}
				for _, s := range openNumbers() {
					bad[i].bytes = s
					checkCommandAsOther(t, joined(bad))
				}
				for _, n := range badSizes(p.n) {
					bad[i].bytes = plainInt(n)
					checkCommandAsOther(t, joined(bad))
					if p.kind == "size" && (n < 0 || n > 1000) {
						checkNoCommand(t, joined(bad), api.ErrForm)
					}
				}
			}
		}
	}
}

// longest: commands whose bytes are as many, by each text that may be so long.
func longest(bytes int) []api.Command {
	var l []api.Command
	for kind := 1; kind <= 10; kind++ {
		for _, field := range []func(c *api.Command) *string{
			func(c *api.Command) *string { return &c.Feed },
			func(c *api.Command) *string { return &c.Guid },
			func(c *api.Command) *string { return &c.Doc },
			func(c *api.Command) *string { return &c.Cursor },
		} {
			c := counted(full(kind))
			if *field(&c) == "" {
				continue
			}
			*field(&c) = text(1 << 16)
			*field(&c) = text(1<<16 + bytes - len(plainCommand(c)))
			l = append(l, c)
		}
	}
	return l
}

// Up to 2^17 bytes a command is read, whatever its texts' lengths; above there is ErrLong, also of what is none.
func TestReadCommandOfManyBytes(t *testing.T) {
	const most = 1 << 17
	for _, c := range longest(most) {
		s := wire.Command(c)
		if len(s) != most {
			t.Fatalf("%v has %d bytes", fewOf(c), len(s))
		}
		checkCommand(t, c, plainCommand(c))
		checkNoCommand(t, s[:most-1], api.ErrForm)
		checkNoCommand(t, s+"x", api.ErrLong)
		checkNoCommand(t, s+s, api.ErrLong)
		checkNoCommand(t, "\x00"+s[1:], api.ErrForm)
	}
	for _, c := range append(longest(most-1), longest(most-2)...) {
		checkCommand(t, c, plainCommand(c))
	}
	for _, c := range append(longest(most+1), longest(2*most)...) {
		s := wire.Command(c)
		if s != plainCommand(c) {
			t.Errorf("Command(%v): not as the other way", fewOf(c))
		}
		checkNoCommand(t, s, api.ErrLong)
	}
	for _, part := range []string{"\x00", "\x07", "\x0a", "\x0b", "\x01", "\x04", "\x80", "\xff", "<"} {
		checkNoCommand(t, repeat(part, most), api.ErrForm)
		checkNoCommand(t, repeat(part, most+1), api.ErrLong)
		checkNoCommand(t, repeat(part, 8*most), api.ErrLong)
	}
}

// mixedText: fewer than most bytes, any ones.
func mixedText(m *uint64, most int) string {
	return sample.Bytes(uint64(below(m, 1<<40)), uint64(most))
}

// below: a number below n, and the mixed number that follows.
func below(m *uint64, n int) int {
	*m = *m*6364136223846793005 + 1442695040888963407
	return int((*m ^ *m>>32) % uint64(n))
}

// mixedNumber: any, near 0 as often as far from it.
func mixedNumber(m *uint64) int {
	n := below(m, math.MaxInt) >> below(m, 63)
	if below(m, 2) == 0 {
		return -n - 1
	}
	return n
}

func mixedCommand(m uint64) api.Command {
	return api.Command{Kind: 1 + below(&m, 10), Feed: mixedText(&m, 40), Guid: mixedText(&m, 200), Doc: mixedText(&m, 300), N: mixedNumber(&m), Filter: mixedNumber(&m), Cursor: mixedText(&m, 90)}
}

// changed: s, of which a few bytes are others, more or fewer.
func changed(m uint64, s string) string {
	for range 1 + below(&m, 3) {
		at := below(&m, len(s)+1)
		switch below(&m, 4) {
		case 0:
			s = s[:at]
		case 1:
			s = s[:at] + mixedText(&m, 4) + s[at:]
		case 2:
			s = s[:at] + s[min(len(s), at+1+below(&m, 3)):]
		case 3:
			if at < len(s) {
				s = s[:at] + string([]byte{s[at] ^ 1<<below(&m, 8)}) + s[at+1:]
			}
		}
	}
	return s
}

func TestMixedCommands(t *testing.T) {
	read, not := 0, 0
	for _, m := range sample.Mixed(20000) {
		c := mixedCommand(m)
		checkCommand(t, c, plainCommand(c))
		s := changed(m>>3, wire.Command(c))
		checkCommandAsOther(t, s)
		if _, code := plainReadCommand(s); code == api.OK {
			read++
		} else {
			not++
		}
		checkCommandAsOther(t, sample.Bytes(m>>8, 12))
	}
	if read < 1000 || not < 1000 {
		t.Errorf("%d were read, %d weren't", read, not)
	}
}

// All rows of up to three of these behind each Kind.
func TestShortCommands(t *testing.T) {
	parts := []string{"\x00", "\x01", "\x02", "\x04", "\x06a", "ab", "\x80", "\x80\x00", "\x80\x01", "\xff"}
	for l := range sample.Lists(parts, 4) {
		s := ""
		for _, part := range l {
			s += part
		}
		for kind := range 12 {
			checkCommandAsOther(t, string([]byte{byte(kind)})+s)
		}
	}
}
