package ops

import (
	"slices"
	"strings"
	"testing"
	"unsafe"

	"quill/api"
)

// roomy is the parts, and behind them spare room that is not empty.
func roomy(l ...api.Part) []api.Part {
	room := append(slices.Clone(l), put("behind"), keep(77), gone(88), put("it"))
	return room[:len(l)]
}

func whole(l []api.Part) []api.Part { return slices.Clone(l[:cap(l)]) }

func TestHandedInStays(t *testing.T) {
	for _, in := range [][]api.Part{
		roomy(),
		roomy(keep(1)),
		roomy(put("a"), put("b"), gone(1), put("c")),
		roomy(gone(1), put("a"), keep(2), keep(1)),
		roomy(keep(1), gone(1), keep(1), put("a")),
		roomy(put("a"), gone(9)),
		roomy(put("\xff"), gone(1)),
		roomy(gone(1), put("a"), keep(0)),
	} {
		was := whole(in)
		Normal(in, 4)
		if !slices.Equal(whole(in), was) {
			t.Errorf("P1: Normal makes %v of %v", whole(in), was)
		}
		Apply("aé世🐚", in)
		if !slices.Equal(whole(in), was) {
			t.Errorf("P1: Apply makes %v of %v", whole(in), was)
		}
	}
}

// TestAnswersAreTheCallers: neither does what is done to an answer reach what was handed in or
// a later answer, nor what is done to what was handed in the answer.
func TestAnswersAreTheCallers(t *testing.T) {
	for _, k := range []struct{ in, want []api.Part }{
		{roomy(put("a"), gone(1), keep(1), put("b")), op(put("a"), gone(1), keep(1), put("b"))},
		{roomy(gone(1), put("a"), keep(1), put("b"), keep(1)), op(put("a"), gone(1), keep(1), put("b"))},
	} {
		was := whole(k.in)
		first, _ := Normal(k.in, 4)
		second, _ := Normal(k.in, 4)
		overwrite(first)
		third, _ := Normal(k.in, 4)
		if !slices.Equal(second, k.want) || !slices.Equal(third, k.want) {
			t.Errorf("P1: Normal = %v, and then %v, want %v", second, third, k.want)
		}
		if !slices.Equal(whole(k.in), was) {
			t.Errorf("P1: what was handed in hangs on the answer: %v", whole(k.in))
		}
		overwrite(k.in)
		if !slices.Equal(second, k.want) {
			t.Errorf("P1: the answer hangs on what was handed in: %v", second)
		}
	}
}

func overwrite(l []api.Part) {
	l = l[:cap(l)]
	for i := range l {
		l[i] = keep(99)
	}
}

func TestAnswersAreNewTexts(t *testing.T) {
	text, put1 := strings.Repeat("é", 50), strings.Repeat("世", 50)
	l, _ := Normal(op(keep(1), put(put1)), 50)
	if shares(l[1].Text, put1) {
		t.Error("P1: Normal gives out a Text that was handed in")
	}
	for _, in := range [][]api.Part{nil, op(keep(50)), op(gone(1)), op(keep(1), gone(49)), op(gone(50), put(put1))} {
		if s, _ := Apply(text, in); shares(s, text) || shares(s, put1) {
			t.Errorf("P1: Apply of %v gives out a text that was handed in", in)
		}
	}
}

// shares: whether one of two texts begins within the other.
func shares(a, b string) bool {
	p, q := uintptr(unsafe.Pointer(unsafe.StringData(a))), uintptr(unsafe.Pointer(unsafe.StringData(b)))
	return p < q+uintptr(len(b)) && q < p+uintptr(len(a))
}

// TestErrorsComeAlone: with an error every other result is zero, even if much was done ahead of it.
func TestErrorsComeAlone(t *testing.T) {
	for _, k := range []struct {
		in []api.Part
		e  api.Errno
	}{
		{op(put("a"), gone(1), api.Part{}), api.ErrArg},
		{op(put("a"), gone(1), put("a\xff")), api.ErrText},
		{op(put("a"), gone(1), keep(4)), api.ErrLength},
		{append(times(api.MaxParts, put("a")), gone(1)), api.ErrArg},
	} {
		if l, e := Normal(k.in, 4); l != nil || e != k.e {
			t.Errorf("P1: Normal(%v, 4) = %v, %d, want nil, %d", k.in, l, e, k.e)
		}
		if s, e := Apply("aé世🐚", k.in); s != "" || e != k.e {
			t.Errorf("P1: Apply(\"aé世🐚\", %v) = %q, %d, want \"\", %d", k.in, s, e, k.e)
		}
	}
}
