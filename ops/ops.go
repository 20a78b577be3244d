// Package ops: operations on texts: see DOC.md.
package ops

import (
	"quill/api"
	"quill/parts"
)

// Normal gives an operation on a text of n characters as it is written (P2).
func Normal(op []api.Part, n int) ([]api.Part, api.Errno) {
	if e := errorOf(op, n); e != api.OK {
		return nil, e
	}
	return parts.Normal(op), api.OK
}

// Apply does an operation (P3).
func Apply(text string, op []api.Part) (string, api.Errno) {
	if e := errorOn(text, op); e != api.OK {
		return "", e
	}
	return parts.Apply(text, op), api.OK
}

// Compose makes two operations, one behind the other, one (P4).
func Compose(a []api.Part, b []api.Part, n int) ([]api.Part, api.Errno) {
	if e := errorOf(a, n); e != api.OK {
		return nil, e
	}
	// That a leaves more than MaxPos characters is the first error of any operation on them.
	if e := errorOf(b, left(a, n)); e != api.OK {
		return nil, e
	}
	return parts.Compose(a, b), api.OK
}

// Transform makes two operations on one text such that can come behind one another (P5).
func Transform(a []api.Part, b []api.Part, n int) ([]api.Part, []api.Part, api.Errno) {
	if e := errorOf(a, n); e != api.OK {
		return nil, nil, e
	}
	if e := errorOf(b, n); e != api.OK {
		return nil, nil, e
	}
	first, second := parts.Transform(a, b)
	return first, second, api.OK
}

// Invert gives the operation that undoes one (P6).
func Invert(op []api.Part, text string) ([]api.Part, api.Errno) {
	if e := errorOn(text, op); e != api.OK {
		return nil, e
	}
	return parts.Invert(op, text), api.OK
}
