package ops

import (
	"quill/api"
	"quill/chars"
)

// errorOf tells the first of the errors of an operation on a text of n characters, or OK.
// Each error is looked for in all parts ahead of the next one, as P2 orders them.
func errorOf(op []api.Part, n int) api.Errno {
	switch {
	case n < 0 || n > api.MaxPos || len(op) > api.MaxParts || !allRight(op):
		return api.ErrArg
	case !allCharacters(op):
		return api.ErrText
	case reach(op) > n:
		return api.ErrLength
	}
	return api.OK
}

// errorOn tells the first of the errors of an operation on a text, or OK.
func errorOn(text string, op []api.Part) api.Errno {
	n, ok := chars.Count(text)
	if !ok {
		return api.ErrText
	}
	// That the text has more than MaxPos characters is the first error of any operation on it.
	return errorOf(op, n)
}

func allRight(op []api.Part) bool {
	for _, p := range op {
		if !right(p) {
			return false
		}
	}
	return true
}

// right leaves out whether the Text is all characters, which is an error of its own.
func right(p api.Part) bool {
	switch p.Kind {
	case api.Keep, api.Delete:
		return p.N >= 1 && p.N <= api.MaxPos && p.Text == ""
	case api.Insert:
		return p.N == 0 && p.Text != ""
	}
	return false
}

func allCharacters(op []api.Part) bool {
	for _, p := range op {
		if _, ok := chars.Count(p.Text); !ok {
			return false
		}
	}
	return true
}

// reach is of how many characters the Keeps and Deletes are together; it asks for right
// parts, no more than MaxParts, so that an Insert's N is 0 and the sum stays small.
func reach(op []api.Part) int {
	n := 0
	for _, p := range op {
		n += p.N
	}
	return n
}

// left is how many characters an operation that has no errors leaves of n.
func left(op []api.Part, n int) int {
	for _, p := range op {
		switch p.Kind {
		case api.Insert:
			put, _ := chars.Count(p.Text)
			n += put
		case api.Delete:
			n -= p.N
		}
	}
	return n
}
