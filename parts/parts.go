// Package parts: what is done with operations that have no errors, of any number of parts.
package parts

import (
	"strings"

	"quill/api"
	"quill/chars"
)

// Normal gives an operation in normal form.
func Normal(op []api.Part) []api.Part {
	var w Writer
	for c := read(op); c.more(); {
		switch p := c.whole(); p.kind {
		case api.Keep:
			w.Keep(p.n)
		case api.Insert:
			w.Insert(p.text)
		case api.Delete:
			w.Delete(p.n)
		}
	}
	return w.Parts()
}

// Apply gives the text that an operation leaves of one.
func Apply(text string, op []api.Part) string {
	var left strings.Builder
	rest := text
	for c := read(op); c.more(); {
		switch p := c.whole(); p.kind {
		case api.Keep:
			var stays string
			stays, rest = chars.Cut(rest, p.n)
			left.WriteString(stays)
		case api.Insert:
			left.WriteString(p.text)
		case api.Delete:
			_, rest = chars.Cut(rest, p.n)
		}
	}
	left.WriteString(rest)
	return left.String()
}
