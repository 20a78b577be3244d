package ops

import (
	"slices"
	"strings"
	"testing"
	"unsafe"

	"quill/api"
)

// roomy is the parts, and behind them spare room that is not empty.
func roomy(l ...api.Part) []api.Part {
	room := append(slices.Clone(l), put("behind"), keep(77), gone(88), put("it"))
	return room[:len(l)]
}

func whole(l []api.Part) []api.Part { return slices.Clone(l[:cap(l)]) }

// calls: those that give lists, on a text of four characters; b is for those that take two operations.
var calls = []struct {
	name string
	do   func(a, b []api.Part) [][]api.Part
}{
	{"Normal", func(a, b []api.Part) [][]api.Part {
		l, _ := Normal(a, 4)
		return [][]api.Part{l}
	}},
	{"Compose", func(a, b []api.Part) [][]api.Part {
		l, _ := Compose(a, b, 4)
		return [][]api.Part{l}
	}},
	{"Transform", func(a, b []api.Part) [][]api.Part {
		l, m, _ := Transform(a, b, 4)
		return [][]api.Part{l, m}
	}},
	{"Invert", func(a, b []api.Part) [][]api.Part {
		l, _ := Invert(a, "aé世🐚")
		return [][]api.Part{l}
	}},
}

func TestHandedInStays(t *testing.T) {
	all := [][]api.Part{
		roomy(),
		roomy(keep(1)),
		roomy(put("a"), put("b"), gone(1), put("c")),
		roomy(gone(1), put("a"), keep(2), keep(1)),
		roomy(keep(1), gone(1), keep(1), put("a")),
		roomy(gone(4)),
		roomy(put("a"), gone(9)),
		roomy(put("\xff"), gone(1)),
		roomy(gone(1), put("a"), keep(0)),
	}
	for _, a := range all {
		wasA := whole(a)
		for _, b := range all {
			wasB := whole(b)
			for _, c := range calls {
				c.do(a, b)
				if !slices.Equal(whole(a), wasA) || !slices.Equal(whole(b), wasB) {
					t.Errorf("P1: %s makes %v, %v of %v, %v", c.name, whole(a), whole(b), wasA, wasB)
				}
			}
		}
		Apply("aé世🐚", a)
		if !slices.Equal(whole(a), wasA) {
			t.Errorf("P1: Apply makes %v of %v", whole(a), wasA)
		}
	}
}

// TestAnswersAreTheCallers: neither does what is done to an answer reach what was handed in, the
// answer's other list or a later answer, nor what is done to what was handed in the answer.
func TestAnswersAreTheCallers(t *testing.T) {
	for _, k := range []struct{ a, b []api.Part }{
		{op(put("a"), gone(1), keep(1), put("b")), op(put("c"), gone(1), keep(1), put("d"))},
		{op(gone(1), put("a"), keep(1), put("b"), keep(1)), op(keep(1), put("c"), keep(1), gone(1))},
		{op(put("a"), gone(1)), nil},
		{nil, op(put("a"), gone(1))},
	} {
		for _, c := range calls {
			want := copies(c.do(k.a, k.b))
			for i := range want {
				a, b := roomy(k.a...), roomy(k.b...)
				wasA, wasB := whole(a), whole(b)
				first, second := c.do(a, b), c.do(a, b)
				overwrite(first[i])
				for j := range want {
					if j != i && !slices.Equal(first[j], want[j]) {
						t.Errorf("P1: %s: list %d hangs on list %d: %v, want %v", c.name, j, i, first[j], want[j])
					}
				}
				third := c.do(a, b)
				if !same(second, want) || !same(third, want) {
					t.Errorf("P1: %s = %v, and then %v, want %v", c.name, second, third, want)
				}
				if !slices.Equal(whole(a), wasA) || !slices.Equal(whole(b), wasB) {
					t.Errorf("P1: %s: what was handed in hangs on the answer: %v, %v", c.name, whole(a), whole(b))
				}
				overwrite(a)
				overwrite(b)
				if !same(second, want) {
					t.Errorf("P1: %s: the answer hangs on what was handed in: %v", c.name, second)
				}
			}
		}
	}
}

func copies(ls [][]api.Part) [][]api.Part {
	var out [][]api.Part
	for _, l := range ls {
		out = append(out, slices.Clone(l))
	}
	return out
}

func same(x, y [][]api.Part) bool { return slices.EqualFunc(x, y, slices.Equal[[]api.Part]) }

func overwrite(l []api.Part) {
	l = l[:cap(l)]
	for i := range l {
		l[i] = keep(99)
	}
}

func TestAnswersAreNewTexts(t *testing.T) {
	text, putA, putB := strings.Repeat("é", 4), strings.Repeat("世", 50), strings.Repeat("🐚", 50)
	for _, k := range []struct{ a, b []api.Part }{
		{op(keep(1), put(putA)), op(keep(1), put(putB))},
		{op(put(putA), gone(1)), op(keep(9), put(putB))},
		{op(put(putA)), nil},
		{op(put(putA)), op(gone(2))},
		{op(put(putA)), op(keep(2), gone(1))},
		{nil, op(put(putB))},
		{op(gone(4)), op(put(putB))},
		{op(keep(1), gone(1)), nil},
	} {
		for _, c := range calls {
			for _, l := range c.do(k.a, k.b) {
				for _, p := range l {
					if p.Kind == api.Insert && (shares(p.Text, putA) || shares(p.Text, putB)) {
						t.Errorf("P1: %s of %v, %v gives out a Text that was handed in", c.name, k.a, k.b)
					}
				}
			}
		}
	}
	for _, in := range [][]api.Part{nil, op(keep(4)), op(gone(1)), op(keep(1), gone(3)), op(gone(4), put(putA))} {
		if s, _ := Apply(text, in); shares(s, text) || shares(s, putA) {
			t.Errorf("P1: Apply of %v gives out a text that was handed in", in)
		}
	}
	for _, in := range [][]api.Part{op(gone(1)), op(keep(1), gone(2)), op(gone(4))} {
		if l, _ := Invert(in, text); shares(l[len(l)-1].Text, text) {
			t.Errorf("P1: Invert of %v gives out a piece of the text that was handed in", in)
		}
	}
}

// shares: whether one of two texts begins within the other.
func shares(a, b string) bool {
	p, q := uintptr(unsafe.Pointer(unsafe.StringData(a))), uintptr(unsafe.Pointer(unsafe.StringData(b)))
	return p < q+uintptr(len(b)) && q < p+uintptr(len(a))
}

// TestErrorsComeAlone: with an error every other result is zero, even if much was done ahead of it.
func TestErrorsComeAlone(t *testing.T) {
	right := op(put("a"), gone(1), keep(1), put("b"))
	for _, k := range []struct {
		in []api.Part
		e  api.Errno
	}{
		{op(put("a"), gone(1), api.Part{}), api.ErrArg},
		{op(put("a"), gone(1), put("a\xff")), api.ErrText},
		{op(put("a"), gone(1), keep(9)), api.ErrLength},
		{append(times(api.MaxParts, put("a")), gone(1)), api.ErrArg},
	} {
		if l, e := Normal(k.in, 4); l != nil || e != k.e {
			t.Errorf("P1: Normal(%v, 4) = %v, %d, want nil, %d", k.in, l, e, k.e)
		}
		if s, e := Apply("aé世🐚", k.in); s != "" || e != k.e {
			t.Errorf("P1: Apply(\"aé世🐚\", %v) = %q, %d, want \"\", %d", k.in, s, e, k.e)
		}
		if l, e := Invert(k.in, "aé世🐚"); l != nil || e != k.e {
			t.Errorf("P1: Invert(%v, \"aé世🐚\") = %v, %d, want nil, %d", k.in, l, e, k.e)
		}
		for _, pair := range [][2][]api.Part{{k.in, right}, {right, k.in}, {k.in, k.in}} {
			if l, e := Compose(pair[0], pair[1], 4); l != nil || e != k.e {
				t.Errorf("P1: Compose(%v, %v, 4) = %v, %d, want nil, %d", pair[0], pair[1], l, e, k.e)
			}
			if l, m, e := Transform(pair[0], pair[1], 4); l != nil || m != nil || e != k.e {
				t.Errorf("P1: Transform(%v, %v, 4) = %v, %v, %d, want nil, nil, %d", pair[0], pair[1], l, m, e, k.e)
			}
		}
	}
}
