package parts

import (
	"quill/api"
	"quill/chars"
)

// Compose gives the operation that does what a does and, to what a leaves, what b does.
func Compose(a, b []api.Part) []api.Part {
	var w Writer
	for p := readBoth(a, b); p.either(); {
		switch {
		case p.kind == api.Delete: // b knows nothing of it
			w.Delete(p.whole().n)
		case p.second.kind == api.Insert: // a knows nothing of it
			w.Insert(p.second.whole().text)
		default:
			left, done := p.step()
			composeStep(&w, left, done)
		}
	}
	return w.Parts()
}

// composeStep writes what comes of characters that a leaves, kept or put in, and b keeps or lets go.
func composeStep(w *Writer, left, done piece) {
	switch {
	case left.kind == api.Insert && done.kind == api.Keep:
		w.Insert(left.text)
	case left.kind == api.Keep && done.kind == api.Keep:
		w.Keep(left.n)
	case left.kind == api.Keep && done.kind == api.Delete:
		w.Delete(left.n)
	}
}

// Transform gives of two operations on one text the first one, as it is to be done to what the
// second one leaves, and the second one, as it is to be done to what the first one leaves.
func Transform(a, b []api.Part) ([]api.Part, []api.Part) {
	var first, second Writer
	// In which gap something is put in, the normal forms tell.
	for p := readBoth(Normal(a), Normal(b)); p.either(); {
		switch {
		case p.kind == api.Insert: // ahead of what b puts in there
			put := p.whole()
			first.Insert(put.text)
			second.Keep(put.n)
		case p.second.kind == api.Insert:
			put := p.second.whole()
			first.Keep(put.n)
			second.Insert(put.text)
		default:
			x, y := p.step()
			transformStep(&first, x, y)
			transformStep(&second, y, x)
		}
	}
	return first.Parts(), second.Parts()
}

// transformStep writes what one operation still has to do to characters of the first text, behind the other.
func transformStep(w *Writer, one, other piece) {
	switch {
	case other.kind == api.Delete: // they are not there any more
	case one.kind == api.Delete:
		w.Delete(one.n)
	default:
		w.Keep(one.n)
	}
}

// Invert gives the operation that makes of what op leaves of a text that text again.
func Invert(op []api.Part, text string) []api.Part {
	var w Writer
	rest := text
	for c := read(op); c.more(); {
		switch p := c.whole(); p.kind {
		case api.Keep:
			_, rest = chars.Cut(rest, p.n)
			w.Keep(p.n)
		case api.Insert:
			w.Delete(p.n)
		case api.Delete:
			var went string
			went, rest = chars.Cut(rest, p.n)
			w.Insert(went)
		}
	}
	return w.Parts()
}
