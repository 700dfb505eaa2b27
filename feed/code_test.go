package feed_test

import (
	"errors"
	"fmt"
	"io"
	"io/fs"
	"math"
	"slices"
	"strconv"
	"testing"

	"newsreel/api"
	"newsreel/atom"
	"newsreel/feed"
	"newsreel/index"
	"newsreel/lex"
	"newsreel/rss"
	"newsreel/tree"
)

// Errors that aren't the program's own.
type (
	around  struct{ within error } // wraps one
	several []error                // wraps some; two of it can't be held against each other
	asked   struct{ code api.Code }
	endless int // wraps a greater one
	bad     struct{ what any }
	like    struct{ api.Code } // has a Code, but is none, and wraps none
)

func (*around) Error() string     { return "around" }
func (x *around) Unwrap() error   { return x.within }
func (several) Error() string     { return "several" }
func (l several) Unwrap() []error { return l }
func (asked) Error() string       { return "asked" }
func (endless) Error() string     { return "endless" }
func (n endless) Unwrap() error   { return n + 1 }
func (bad) Error() string         { panic("error") }
func (x bad) Unwrap() error       { panic(x.what) }
func (x asked) As(target any) bool {
	c, ok := target.(*api.Code)
	if ok {
		*c = x.code
	}
	return ok
}

// fault: an api.Fault at a place, of that error.
func fault(at int, err error) *api.Fault { return &api.Fault{At: at, Err: err} }

func checkCode(t *testing.T, what string, e error, want api.Code) {
	t.Helper()
	if got := feed.Code(e); got != want {
		t.Errorf("Code of %s: %d, not %d", what, got, want)
	}
}

// codes: each Code, and numbers beside those that api has.
func codes() []api.Code {
	l := []api.Code{math.MinInt, -1, api.ErrBroken + 1, 99, math.MaxInt}
	for c := api.OK; c <= api.ErrBroken; c++ {
		l = append(l, c)
	}
	return l
}

// ways: ways in which an error may wrap another one.
func ways() []func(error) error {
	return []func(error) error{
		func(e error) error { return fault(0, e) },
		func(e error) error { return fault(math.MinInt, e) },
		func(e error) error { return &around{e} },
		func(e error) error { return fmt.Errorf("x %w", e) },
		func(e error) error { return fmt.Errorf("%w, %w", io.EOF, e) },
		func(e error) error { return errors.Join(e) },
		func(e error) error { return errors.Join(io.EOF, &api.Fault{}, e, io.EOF) },
		func(e error) error { return several{nil, e, nil} },
		func(e error) error { return &fs.PathError{Op: "x", Err: e} },
		func(e error) error { return &strconv.NumError{Err: e} },
	}
}

func TestCodeOfNoError(t *testing.T) {
	checkCode(t, "nil", nil, api.OK)
	checkCode(t, "nothing joined", errors.Join(nil, nil), api.OK)
}

func TestCodeOfEachCode(t *testing.T) {
	for _, c := range codes() {
		checkCode(t, "itself", c, c)
		for i, wrap := range ways() {
			checkCode(t, fmt.Sprint("way ", i), wrap(c), c)
			for k, again := range ways() {
				checkCode(t, fmt.Sprint("ways ", i, k), again(wrap(c)), c)
				checkCode(t, fmt.Sprint("ways ", i, k, i), wrap(again(wrap(c))), c)
			}
		}
		checkCode(t, "one that says so", asked{c}, c)
		checkCode(t, "one that says so, wrapped", fault(3, &around{asked{c}}), c)
	}
}

func TestCodeHoweverDeep(t *testing.T) {
	for i, wrap := range ways() {
		var good, none error = api.ErrDepth, io.EOF
		for n := range 300 {
			checkCode(t, fmt.Sprint("way ", i, ", ", n, " times"), good, api.ErrDepth)
			checkCode(t, fmt.Sprint("way ", i, ", ", n, " times, of none"), none, api.ErrArg)
			good, none = wrap(good), wrap(none)
		}
	}
	for _, depth := range []int{1 << 10, 1 << 16, 1 << 20} {
		for i, wrap := range []func(error) error{ways()[0], func(e error) error { return errors.Join(e) }, func(e error) error { return several{io.EOF, e} }} {
			var good, none error = api.ErrDepth, &api.Fault{}
			for range depth {
				good, none = wrap(good), wrap(none)
			}
			checkCode(t, fmt.Sprint("way ", i, ", ", depth, " times"), good, api.ErrDepth)
			checkCode(t, fmt.Sprint("way ", i, ", ", depth, " times, of none"), none, api.ErrArg)
		}
	}
}

// The Code is that which errors.As finds: the first one, as what is within comes ahead of what is beside.
func TestCodeOfSeveral(t *testing.T) {
	all := []error{nil, io.EOF, api.ErrForm, fault(1, api.ErrLong), fault(1, nil), errors.Join(io.EOF, fault(2, api.ErrNone)), asked{api.ErrFull}, api.OK, fmt.Errorf("%w %w", &around{}, api.ErrClock)}
	for _, a := range all {
		for _, b := range all {
			for _, c := range all {
				for i, e := range []error{errors.Join(a, b, c), errors.Join(fault(0, errors.Join(a, b)), c), several{a, several{b, c}}, fault(1, several{a, several{several{}, b}, c})} {
					want := api.ErrArg
					if e == nil {
						want = api.OK
					} else {
						errors.As(e, &want)
					}
					checkCode(t, fmt.Sprint("row ", i, " of ", a, b, c), e, want)
				}
			}
		}
	}
	wide := slices.Repeat([]error{io.EOF, fault(0, nil)}, 1<<20)
	checkCode(t, "many", several(wide), api.ErrArg)
	checkCode(t, "many, and one", several(append(wide, fault(0, api.ErrTwice))), api.ErrTwice)
}

func TestCodeOfErrorsWithoutAny(t *testing.T) {
	var code *api.Code
	_, number := strconv.Atoi("x")
	for i, e := range []error{errors.New("form"), errors.New(""), io.EOF, fs.ErrNotExist, number, fmt.Errorf("%v", api.ErrForm), &api.Fault{}, (*api.Fault)(nil), fault(3, nil), fault(3, fault(4, nil)), fault(3, (*api.Fault)(nil)), errors.Join(io.EOF, &api.Fault{}),
		code, new(api.Code), like{api.ErrForm}, &like{api.ErrForm}, several(nil), several{}, several{nil}, &around{}, &fs.PathError{}, fs.ErrInvalid, errors.ErrUnsupported} {
		checkCode(t, fmt.Sprint("number ", i), e, api.ErrArg)
		for k, wrap := range ways() {
			checkCode(t, fmt.Sprint("number ", i, ", way ", k), wrap(e), api.ErrArg)
		}
	}
}

// Errors that panic where they are asked what they wrap.
func TestCodeOfErrorsThatPanic(t *testing.T) {
	for i, e := range []error{(*strconv.NumError)(nil), (*fs.PathError)(nil), (*around)(nil), bad{"x"}, bad{nil}, bad{api.ErrForm}, bad{io.EOF}, struct{ error }{}} {
		checkCode(t, fmt.Sprint("number ", i), e, api.ErrArg)
		for k, wrap := range ways()[:3] {
			checkCode(t, fmt.Sprint("number ", i, ", way ", k), wrap(e), api.ErrArg)
		}
		checkCode(t, fmt.Sprint("number ", i, " behind a Code"), several{io.EOF, api.ErrForm, e}, api.ErrForm)
		checkCode(t, fmt.Sprint("number ", i, " behind a Code, wrapped"), errors.Join(fault(1, api.ErrForm), e), api.ErrForm)
	}
}

// rings: errors that stand within themselves.
func rings() []error {
	self, two, joined, wide, said := &api.Fault{}, &api.Fault{}, &api.Fault{}, &api.Fault{}, &api.Fault{}
	self.Err = self
	two.Err = fault(1, fault(2, two))
	joined.Err = errors.Join(io.EOF, joined)
	wide.Err = several(slices.Repeat([]error{wide}, 1000))
	said.Err = fmt.Errorf("%w %w", said, said)
	long := &api.Fault{}
	long.Err = long
	for range 1000 {
		long.Err = fault(0, long.Err)
	}
	other := &around{}
	other.within = other
	list := several{nil}
	list[0] = list
	path := &fs.PathError{}
	path.Err = errors.Join(path, path)
	return []error{self, two, joined, wide, said, long, other, list, path, endless(0)}
}

func TestCodeOfRings(t *testing.T) {
	for i, e := range rings() {
		checkCode(t, fmt.Sprint("ring ", i), e, api.ErrArg)
		checkCode(t, fmt.Sprint("ring ", i, ", wrapped"), fault(7, &around{e}), api.ErrArg)
		checkCode(t, fmt.Sprint("ring ", i, " behind a Code"), several{io.EOF, fault(1, api.ErrForm), e}, api.ErrForm)
	}
	entered := &api.Fault{} // a Code within the ring, ahead of where it closes
	entered.Err = errors.Join(fault(1, api.ErrLimit), entered)
	checkCode(t, "a ring that has a Code", entered, api.ErrLimit)
}

func TestErrorsAreNotChanged(t *testing.T) {
	inner := fault(5, api.ErrForm)
	list := several{io.EOF, &api.Fault{}, inner, api.ErrLong, io.EOF}
	outer := fault(7, list[:4])
	for range 3 {
		checkCode(t, "a list", outer, api.ErrForm)
		checkCode(t, "a part of it", list[3:], api.ErrLong)
	}
	if *inner != *fault(5, api.ErrForm) || outer.At != 7 || len(outer.Err.(several)) != 4 || list[0] != io.EOF || list[2] != error(inner) || list[3] != api.ErrLong || list[4] != io.EOF {
		t.Errorf("changed: %v, %v, %v", inner, outer, list)
	}
	inner.Err = api.ErrNone // nothing is kept
	checkCode(t, "another one", outer, api.ErrNone)
}

func TestCodeOfTheLayersBelow(t *testing.T) {
	_, none := lex.Tokens("x", 1)
	_, deep := lex.Tokens("<x/>", 0)
	_, form := tree.Build(nil)
	_, format := rss.Items(nil, 1, 1)
	_, argument := index.New(-1)
	nodes := []api.Node{{Name: "feed", Up: -1}, {Name: "entry"}}
	_, limit := atom.Items(nodes, 0, 1)
	_, entry := atom.Items(nodes, 1, 1)
	_, good := atom.Items(nodes[:1], 1, 1)
	for e, want := range map[error]api.Code{none: api.ErrSyntax, deep: api.ErrDepth, form: api.ErrForm, format: api.ErrFormat, argument: api.ErrArg, limit: api.ErrLimit, entry: api.ErrEntry, good: api.OK} {
		checkCode(t, want.Error(), e, want)
	}
}
