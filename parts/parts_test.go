package parts

import (
	"slices"
	"strings"
	"testing"

	"quill/api"
)

func keep(n int) api.Part { return api.Part{Kind: api.Keep, N: n} }

func gone(n int) api.Part { return api.Part{Kind: api.Delete, N: n} }

func put(s string) api.Part { return api.Part{Kind: api.Insert, Text: s} }

func op(l ...api.Part) []api.Part { return l }

func TestWriterPassesOverNothing(t *testing.T) {
	var w Writer
	w.Keep(0)
	w.Delete(0)
	w.Insert("")
	w.Delete(1)
	w.Keep(0)
	w.Delete(2)
	w.Insert("")
	w.Keep(1)
	w.Insert("")
	w.Keep(1)
	w.Insert("a")
	w.Delete(0)
	w.Keep(4)
	if l := w.Parts(); !slices.Equal(l, op(gone(3), keep(2), put("a"))) {
		t.Errorf("Parts = %v", l)
	}
}

func TestWriterIsAsNewBehindParts(t *testing.T) {
	var w Writer
	w.Keep(1)
	w.Insert("a")
	w.Keep(2)
	first := w.Parts()
	w.Insert("b")
	w.Delete(1)
	second := w.Parts()
	if !slices.Equal(first, op(keep(1), put("a"))) || !slices.Equal(second, op(put("b"), gone(1))) {
		t.Errorf("Parts = %v, then %v", first, second)
	}
	if l := w.Parts(); len(l) != 0 {
		t.Errorf("Parts of nothing = %v", l)
	}
}

func TestAnyNumberOfParts(t *testing.T) {
	many := slices.Repeat(op(keep(1), gone(1), put("é")), 1000)
	want := slices.Repeat(op(keep(1), put("é"), gone(1)), 1000)
	if l := Normal(many); !slices.Equal(l, want) {
		t.Errorf("Normal of %d parts is of %d", len(many), len(l))
	}
	if s := Apply(strings.Repeat("世🐚", 1000), many); s != strings.Repeat("世é", 1000) {
		t.Errorf("Apply of %d parts = %q", len(many), s)
	}
}
