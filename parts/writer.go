package parts

import (
	"strings"

	"quill/api"
)

// Writer gathers an operation, from the text's beginning on, and has it in normal form.
// What is put in and what goes between two Keeps is held back, since what is put in
// later still comes ahead of what goes; so is a Keep, since it may be the last.
type Writer struct {
	done []api.Part
	kept int
	put  strings.Builder
	gone int
}

// Keep lets the next n characters stay.
func (w *Writer) Keep(n int) {
	if n == 0 {
		return // else it would part two Deletes that stand behind one another
	}
	w.settle()
	w.kept += n
}

// Insert puts a text in.
func (w *Writer) Insert(text string) { w.put.WriteString(text) }

// Delete lets the next n characters go.
func (w *Writer) Delete(n int) { w.gone += n }

// Parts ends the operation and gives it; the Writer is as new then.
func (w *Writer) Parts() []api.Part {
	w.settle()
	op := w.done
	*w = Writer{}
	return op
}

// settle writes what was held back. A Keep with nothing behind it goes on being held back.
func (w *Writer) settle() {
	if w.put.Len() == 0 && w.gone == 0 {
		return
	}
	if w.kept > 0 {
		w.done = append(w.done, api.Part{Kind: api.Keep, N: w.kept})
	}
	if w.put.Len() > 0 {
		w.done = append(w.done, api.Part{Kind: api.Insert, Text: w.put.String()})
	}
	if w.gone > 0 {
		w.done = append(w.done, api.Part{Kind: api.Delete, N: w.gone})
	}
	w.kept, w.gone = 0, 0
	w.put.Reset()
}
