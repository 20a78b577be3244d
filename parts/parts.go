// Package parts: what is done with operations that have no errors, of any number of parts.
package parts

import (
	"strings"

	"quill/api"
	"quill/chars"
)

// Normal gives an operation in normal form.
func Normal(op []api.Part) []api.Part {
	var w Writer
	for _, p := range op {
		switch p.Kind {
		case api.Keep:
			w.Keep(p.N)
		case api.Insert:
			w.Insert(p.Text)
		case api.Delete:
			w.Delete(p.N)
		}
	}
	return w.Parts()
}

// Apply gives the text that an operation leaves of one.
func Apply(text string, op []api.Part) string {
	var left strings.Builder
	rest := text
	for _, p := range op {
		switch p.Kind {
		case api.Keep:
			var stays string
			stays, rest = chars.Cut(rest, p.N)
			left.WriteString(stays)
		case api.Insert:
			left.WriteString(p.Text)
		case api.Delete:
			_, rest = chars.Cut(rest, p.N)
		}
	}
	left.WriteString(rest)
	return left.String()
}
