package parts

import (
	"slices"
	"strings"
	"testing"

	"quill/api"
)

func keep(n int) api.Part { return api.Part{Kind: api.Keep, N: n} }

func gone(n int) api.Part { return api.Part{Kind: api.Delete, N: n} }

func put(s string) api.Part { return api.Part{Kind: api.Insert, Text: s} }

func op(l ...api.Part) []api.Part { return l }

func TestWriterPassesOverNothing(t *testing.T) {
	var w Writer
	w.Keep(0)
	w.Delete(0)
	w.Insert("")
	w.Delete(1)
	w.Keep(0)
	w.Delete(2)
	w.Insert("")
	w.Keep(1)
	w.Insert("")
	w.Keep(1)
	w.Insert("a")
	w.Delete(0)
	w.Keep(4)
	if l := w.Parts(); !slices.Equal(l, op(gone(3), keep(2), put("a"))) {
		t.Errorf("Parts = %v", l)
	}
}

func TestWriterIsAsNewBehindParts(t *testing.T) {
	var w Writer
	w.Keep(1)
	w.Insert("a")
	w.Keep(2)
	first := w.Parts()
	w.Insert("b")
	w.Delete(1)
	second := w.Parts()
	if !slices.Equal(first, op(keep(1), put("a"))) || !slices.Equal(second, op(put("b"), gone(1))) {
		t.Errorf("Parts = %v, then %v", first, second)
	}
	if l := w.Parts(); len(l) != 0 {
		t.Errorf("Parts of nothing = %v", l)
	}
}

func TestAnyNumberOfParts(t *testing.T) {
	many := slices.Repeat(op(keep(1), gone(1), put("é")), 1000)
	want := slices.Repeat(op(keep(1), put("é"), gone(1)), 1000)
	if l := Normal(many); !slices.Equal(l, want) {
		t.Errorf("Normal of %d parts is of %d", len(many), len(l))
	}
	if s := Apply(strings.Repeat("世🐚", 1000), many); s != strings.Repeat("世é", 1000) {
		t.Errorf("Apply of %d parts = %q", len(many), s)
	}
}

// TestLongOperations: P13 at operations of many parts, and texts of more than MaxPos characters.
func TestLongOperations(t *testing.T) {
	n := api.MaxPos + 10
	text := strings.Repeat("é", n)
	a := append(op(put("x"), keep(api.MaxPos)), slices.Repeat(op(put("A"), gone(1), keep(1)), 5)...)
	b := append(op(gone(1), keep(api.MaxPos-1)), slices.Repeat(op(keep(1), put("B")), 10)...)
	first, second := Transform(a, b)
	want := "x" + strings.Repeat("é", api.MaxPos-1) + "ABé" + strings.Repeat("ABBé", 4) + "B"
	if s := Apply(Apply(text, a), second); s != want {
		t.Errorf("P13: a and b' leave %d bytes, want %d", len(s), len(want))
	}
	if s := Apply(Apply(text, b), first); s != want {
		t.Errorf("P13: b and a' leave %d bytes, want %d", len(s), len(want))
	}
	whole := Compose(a, second)
	if !slices.Equal(whole, Compose(b, first)) || !slices.Equal(whole, Normal(whole)) || Apply(text, whole) != want {
		t.Errorf("P13: Compose of a and b' = %v, of b and a' = %v", whole, Compose(b, first))
	}
	if s := Apply(want, Invert(whole, text)); s != text {
		t.Errorf("P13: Invert leaves %d bytes, want %d", len(s), len(text))
	}
}

func TestManyPartsOfBoth(t *testing.T) {
	const n = 3000
	puts, goes := slices.Repeat(op(keep(1), put("é")), n), slices.Repeat(op(keep(1), gone(1)), n/2)
	want := slices.Repeat(op(keep(1), put("éé"), gone(1)), n/2)
	first, second := Transform(puts, goes)
	if l := Compose(puts, second); !slices.Equal(l, want) {
		t.Errorf("P13: Compose of a and b' is of %d parts, want %d", len(l), len(want))
	}
	if l := Compose(goes, first); !slices.Equal(l, want) {
		t.Errorf("P13: Compose of b and a' is of %d parts, want %d", len(l), len(want))
	}
}
