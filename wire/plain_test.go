package wire_test

import (
	"encoding/binary"
	"reflect"
	"slices"
	"strings"

	"newsreel/api"
)

// Other ways of telling what layer 21 tells: the library's numbers, and the fields by their names, in tables.

// fields: the fields of a type's bytes, in order; of an answer those behind its Code.
var fields = map[string]string{
	"Key":     "Feed Guid",
	"Entry":   "Key Title Link Body Stamp Sig",
	"State":   "Now Floor Epoch Feeds Entries Read",
	"Cluster": "Rep Members Feeds Newest Score Read",
	"Answer":  "New Epoch Clusters Entries Cursor Counts",
}

// counting: the fields of a command's bytes, by its Kind.
var counting = map[int]string{
	1: "Feed", 2: "Feed", 3: "Feed Doc", 4: "N", 5: "Feed Guid", 6: "Feed Guid",
	7: "", 8: "Filter N Cursor", 9: "Feed Guid", 10: "",
}

// part is a part of what is written: a number, a text's size, a list's count, or bytes that are no number.
type part struct {
	kind  string
	field string
	n     int
	bytes string
}

func plainInt(n int) string { return string(binary.AppendVarint(nil, int64(n))) }

func numberPart(kind, field string, n int) part { return part{kind, field, n, plainInt(n)} }

func textParts(field, s string) []part {
	return []part{numberPart("size", field, len(s)), {"bytes", field, 0, s}}
}

// joined: the bytes of parts.
func joined(l []part) string {
	var b strings.Builder
	for _, p := range l {
		b.WriteString(p.bytes)
	}
	return b.String()
}

// partsOf: those of any value, by its kind.
func partsOf(field string, v reflect.Value) []part {
	switch v.Kind() {
	case reflect.Int:
		return []part{numberPart("number", field, int(v.Int()))}
	case reflect.Bool:
		return []part{numberPart("number", field, map[bool]int{true: 1}[v.Bool()])}
	case reflect.Uint64:
		return []part{{"bytes", field, 0, string(binary.LittleEndian.AppendUint64(nil, v.Uint()))}}
	case reflect.String:
		return textParts(field, v.String())
	case reflect.Struct:
		return fieldParts(fields[v.Type().Name()], v)
	}
	var l []part
	if v.Kind() == reflect.Slice {
		l = append(l, numberPart("count", field, v.Len()))
	}
	for i := range v.Len() {
		l = append(l, partsOf(field, v.Index(i))...)
	}
	return l
}

// fieldParts: those of the fields of a struct that have these names.
func fieldParts(names string, v reflect.Value) []part {
	var l []part
	for _, name := range strings.Fields(names) {
		l = append(l, partsOf(name, v.FieldByName(name))...)
	}
	return l
}

func commandParts(c api.Command) []part {
	return append([]part{{"bytes", "Kind", 0, string([]byte{byte(c.Kind)})}}, fieldParts(counting[c.Kind], reflect.ValueOf(c))...)
}

func stateParts(x api.State) []part { return partsOf("", reflect.ValueOf(x)) }

func answerParts(a api.Answer) []part {
	code := numberPart("number", "Code", int(a.Code))
	if a.Code != 0 {
		return []part{code}
	}
	return append([]part{code}, partsOf("", reflect.ValueOf(a))...)
}

func plainCommand(c api.Command) string { return joined(commandParts(c)) }

func plainState(x api.State) string { return joined(stateParts(x)) }

func plainAnswer(a api.Answer) string { return joined(answerParts(a)) }

// plainReadInt: what the library reads, if it is written so.
func plainReadInt(s string) (int, string, bool) {
	n, size := binary.Varint([]byte(s[:min(len(s), 20)]))
	if size <= 0 || plainInt(int(n)) != s[:size] {
		return 0, "", false
	}
	return int(n), s[size:], true
}

func plainReadText(s string, most int) (string, string, bool) {
	n, rest, ok := plainReadInt(s)
	if !ok || n < 0 || n > most || n > len(rest) {
		return "", "", false
	}
	return rest[:n], rest[n:], true
}

// sizes: how many bytes texts of a field may have.
var sizes = map[string]int{"Feed": 24, "Feeds": 24, "Guid": 256, "Title": 1 << 18, "Link": 1 << 18, "Body": 1 << 18}

// fill fills v by the beginning of s, and tells what stands behind.
func fill(field string, v reflect.Value, s string, most map[string]int) (string, bool) {
	n, rest, ok := 0, "", false
	switch v.Kind() {
	case reflect.Uint64:
		if len(s) < 8 {
			return "", false
		}
		v.SetUint(binary.LittleEndian.Uint64([]byte(s[:8])))
		return s[8:], true
	case reflect.String:
		var text string
		text, rest, ok = plainReadText(s, most[field])
		v.SetString(text)
	case reflect.Int, reflect.Bool:
		n, rest, ok = plainReadInt(s)
		if v.Kind() == reflect.Int {
			v.SetInt(int64(n))
		} else {
			v.SetBool(n == 1)
			ok = ok && (n == 0 || n == 1)
		}
	case reflect.Struct:
		return fillFields(fields[v.Type().Name()], v, s, most)
	default:
		return fillList(field, v, s, most)
	}
	return rest, ok
}

// fillFields fills the fields that have these names.
func fillFields(names string, v reflect.Value, s string, most map[string]int) (string, bool) {
	ok := true
	for _, name := range strings.Fields(names) {
		if s, ok = fill(name, v.FieldByName(name), s, most); !ok {
			return "", false
		}
	}
	return s, true
}

// fillList fills an array, or a list of as many as s says.
func fillList(field string, v reflect.Value, s string, most map[string]int) (string, bool) {
	count, ok := v.Len(), true
	if v.Kind() == reflect.Slice {
		if count, s, ok = plainReadInt(s); !ok || count < 0 || count > len(s) { // each of them has a byte at least
			return "", false
		}
		v.Set(reflect.MakeSlice(v.Type(), count, count))
	}
	for i := range count {
		if s, ok = fill(field, v.Index(i), s, most); !ok {
			return "", false
		}
	}
	return s, true
}

func plainReadState(s string) (api.State, bool) {
	var x api.State
	rest, ok := fill("", reflect.ValueOf(&x).Elem(), s, sizes)
	if !ok || rest != "" {
		return api.State{}, false
	}
	return x, true
}

// bounds: those of a command's texts.
var bounds = map[string]int{"Feed": 1 << 17, "Guid": 1 << 17, "Doc": 1 << 17, "Cursor": 1 << 17}

func plainReadCommand(s string) (api.Command, api.Code) {
	if len(s) > 131072 {
		return api.Command{}, api.ErrLong
	}
	if s == "" {
		return api.Command{}, api.ErrForm
	}
	c := api.Command{Kind: int(s[0])}
	names, ok := counting[c.Kind]
	rest := ""
	if ok {
		rest, ok = fillFields(names, reflect.ValueOf(&c).Elem(), s[1:], bounds)
	}
	if !ok || rest != "" {
		return api.Command{}, api.ErrForm
	}
	return c, api.OK
}

// plainReadAnswer: layer 21 reads none, but all that is written goes back.
func plainReadAnswer(s string) (api.Answer, bool) {
	code, rest, ok := plainReadInt(s)
	a := api.Answer{Code: api.Code(code)}
	if ok && code == 0 {
		most := map[string]int{}
		for _, name := range []string{"Feed", "Guid", "Title", "Link", "Body", "Cursor"} {
			most[name] = len(s)
		}
		rest, ok = fill("", reflect.ValueOf(&a).Elem(), rest, most)
	}
	return a, ok && rest == ""
}

// counted: c, all that doesn't count zero.
func counted(c api.Command) api.Command {
	d := api.Command{Kind: c.Kind}
	from, to := reflect.ValueOf(c), reflect.ValueOf(&d).Elem()
	for _, name := range strings.Fields(counting[c.Kind]) {
		to.FieldByName(name).Set(from.FieldByName(name))
	}
	return d
}

// sameState: whether all of a is as b has it; a list that holds nothing may be nil.
func sameState(a, b api.State) bool {
	return a.Now == b.Now && a.Floor == b.Floor && a.Epoch == b.Epoch &&
		slices.Equal(a.Feeds, b.Feeds) && slices.Equal(a.Entries, b.Entries) && slices.Equal(a.Read, b.Read)
}

func sameCluster(a, b api.Cluster) bool {
	return a.Rep == b.Rep && slices.Equal(a.Members, b.Members) && a.Feeds == b.Feeds && a.Newest == b.Newest && a.Score == b.Score && a.Read == b.Read
}

func sameAnswer(a, b api.Answer) bool {
	return a.Code == b.Code && a.New == b.New && a.Epoch == b.Epoch && a.Cursor == b.Cursor && a.Counts == b.Counts &&
		slices.EqualFunc(a.Clusters, b.Clusters, sameCluster) && slices.Equal(a.Entries, b.Entries)
}
