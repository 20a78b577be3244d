// Package ops: operations on texts: see DOC.md.
package ops

import (
	"quill/api"
	"quill/chars"
	"quill/parts"
)

// Normal gives an operation on a text of n characters as it is written (P2).
func Normal(op []api.Part, n int) ([]api.Part, api.Errno) {
	if e := errorOf(op, n); e != api.OK {
		return nil, e
	}
	return parts.Normal(op), api.OK
}

// Apply does an operation (P3).
func Apply(text string, op []api.Part) (string, api.Errno) {
	n, ok := chars.Count(text)
	if !ok {
		return "", api.ErrText
	}
	// That the text has more than MaxPos characters is the first error of any operation on it.
	if e := errorOf(op, n); e != api.OK {
		return "", e
	}
	return parts.Apply(text, op), api.OK
}

// Compose makes two operations, one behind the other, one (P4).
func Compose(a []api.Part, b []api.Part, n int) ([]api.Part, api.Errno) { return nil, api.OK }

// Transform makes two operations on one text such that can come behind one another (P5).
func Transform(a []api.Part, b []api.Part, n int) ([]api.Part, []api.Part, api.Errno) {
	return nil, nil, api.OK
}

// Invert gives the operation that undoes one (P6).
func Invert(op []api.Part, text string) ([]api.Part, api.Errno) { return nil, api.OK }
