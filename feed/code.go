package feed

import (
	"errors"

	"newsreel/api"
)

// deepest: in how many others an error may stand. No error that has an end comes to it: the document's bound is 2^16.
const deepest = 1 << 20

// Code: the number of the error e.
func Code(e error) (code api.Code) {
	if e == nil {
		return api.OK
	}
	defer func() {
		if recover() != nil { // an error that isn't the program's own may panic where it is asked what it wraps
			code = api.ErrArg
		}
	}()
	if !ends(e) || !errors.As(e, &code) {
		return api.ErrArg
	}
	return code
}

// ends: whether errors.As, which goes the same way, comes to a Code in e, or to the end. A Fault may stand within itself; errors.As would go round in it for ever.
func ends(e error) bool {
	open := [][]error{{e}} // of each depth what is still to be gone through
	for len(open) > 0 {
		last := len(open) - 1
		if last > deepest {
			return false
		}
		if len(open[last]) == 0 {
			open = open[:last]
			continue
		}
		next := open[last][0]
		open[last] = open[last][1:]
		switch x := next.(type) {
		case api.Code:
			return true
		case interface{ Unwrap() error }:
			open = append(open, []error{x.Unwrap()})
		case interface{ Unwrap() []error }:
			open = append(open, x.Unwrap())
		}
	}
	return true
}
