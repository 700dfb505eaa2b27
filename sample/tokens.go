package sample

import (
	"errors"
	"slices"
	"strconv"

	"newsreel/api"
)

// Start: the token that begins an element.
func Start(name string, attrs ...api.Attr) api.Token {
	return api.Token{Kind: api.TokStart, Name: name, Attrs: attrs}
}

// Empty: the token of an element that has nothing within.
func Empty(name string, attrs ...api.Attr) api.Token {
	return api.Token{Kind: api.TokEmpty, Name: name, Attrs: attrs}
}

// End: the token that ends an element.
func End(name string) api.Token { return api.Token{Kind: api.TokEnd, Name: name} }

// Text: the token of a text.
func Text(s string) api.Token { return api.Token{Kind: api.TokText, Text: s} }

// Attr: an attribute.
func Attr(name, value string) api.Attr { return api.Attr{Name: name, Value: value} }

// SameTokens: whether a and b are alike; a list of no attributes is like another one.
func SameTokens(a, b []api.Token) bool {
	return slices.EqualFunc(a, b, func(x, y api.Token) bool {
		return x.Kind == y.Kind && x.Name == y.Name && x.Text == y.Text && slices.Equal(x.Attrs, y.Attrs)
	})
}

// Fault: the place that err tells, and what is amiss with err, which must be an api.Fault that wraps the Code want and no other one; nothing, if it is so.
func Fault(err error, want api.Code) (int, string) {
	for c := api.OK - 1; c <= api.ErrBroken+1; c++ { // those beside the ones that api has, too
		if errors.Is(err, c) != (c == want) {
			return 0, "errors.Is of Code " + strconv.Itoa(int(c)) + " is wrong"
		}
	}
	var code api.Code
	if !errors.As(err, &code) || code != want {
		return 0, "errors.As finds not " + want.Error()
	}
	var f *api.Fault
	if !errors.As(err, &f) {
		return 0, "no api.Fault"
	}
	return f.At, ""
}
