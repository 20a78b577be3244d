package ops

import (
	"slices"
	"strings"
	"testing"

	"quill/api"
)

func TestInvert(t *testing.T) {
	for _, k := range []struct {
		op   []api.Part
		text string
		want []api.Part
	}{
		// the document's example
		{op(keep(1), gone(2), put("Q")), "abcd", op(keep(1), put("bc"), gone(1))},
		// nothing to do
		{nil, "", nil},
		{nil, "aé世🐚", nil},
		{op(keep(1), keep(3)), "aé世🐚", nil},
		// what was put in goes: characters, not bytes
		{op(put("aé世🐚")), "", op(gone(4))},
		{op(put("é"), keep(1), put("世🐚"), keep(1)), "ab", op(gone(1), keep(1), gone(2))},
		{op(put("é"), put("世")), "ab", op(gone(2))},
		// what went is put in where it was
		{op(gone(4)), "aé世🐚", op(put("aé世🐚"))},
		{op(gone(1), keep(1), gone(1)), "aé世🐚", op(put("a"), keep(1), put("世"))},
		{op(keep(1), gone(1), keep(1), gone(1)), "aé世🐚", op(keep(1), put("é"), keep(1), put("🐚"))},
		{op(gone(1), gone(2)), "aé世🐚", op(put("aé世"))},
		// both at one place
		{op(put("x"), gone(1)), "é", op(put("é"), gone(1))},
		{op(gone(1), put("x")), "é", op(put("é"), gone(1))},
		{op(gone(1), put("x"), gone(1), put("y")), "é世", op(put("é世"), gone(2))},
		{op(put("x"), gone(1), put("y"), keep(1), put("z")), "é世", op(put("é"), gone(2), keep(1), gone(1))},
		{op(put("é"), gone(1)), "é", op(put("é"), gone(1))}, // the same character comes and goes nevertheless
		// a Keep at the end
		{op(put("x"), keep(2)), "ab", op(gone(1))},
		{op(gone(1), keep(1)), "ab", op(put("a"))},
		{op(keep(1), gone(1), keep(1)), "abc", op(keep(1), put("b"))},
	} {
		if l, e := Invert(k.op, k.text); !slices.Equal(l, k.want) || e != api.OK {
			t.Errorf("P6: Invert(%v, %q) = %v, %d, want %v", k.op, k.text, l, e, k.want)
		}
	}
}

func TestInvertBounds(t *testing.T) {
	most := strings.Repeat("é", api.MaxPos)
	all := strings.Repeat("é世", api.MaxParts/2)
	for _, k := range []struct {
		about string
		op    []api.Part
		text  string
		want  []api.Part
		e     api.Errno
	}{
		{"nothing to MaxPos characters", nil, most, nil, api.OK},
		{"all of MaxPos characters go", op(gone(api.MaxPos)), most, op(put(most)), api.OK},
		{"the last of MaxPos characters", op(keep(api.MaxPos-1), gone(1), put("世")), most, op(keep(api.MaxPos-1), put("é"), gone(1)), api.OK},
		{"it leaves MaxPos characters", op(put(most)), "", op(gone(api.MaxPos)), api.OK},
		{"it leaves more, which is no error", op(keep(api.MaxPos), put("x")), most, op(keep(api.MaxPos), gone(1)), api.OK},
		{"a part more than MaxPos characters", op(keep(api.MaxPos), gone(1)), most, nil, api.ErrLength},
		{"one character more", nil, most + "a", nil, api.ErrArg},
		{"one more, and it would go", op(gone(1)), most + "a", nil, api.ErrArg},
		{"one more, and bytes of the operation", op(put("\xff")), most + "a", nil, api.ErrArg},
		{"one more, and bytes of the text", nil, most + "a\xff", nil, api.ErrText},
		{"MaxParts parts", times(api.MaxParts/2, gone(1), keep(1)), all, times(api.MaxParts/2, put("é"), keep(1))[:api.MaxParts-1], api.OK},
		{"one part more", times(api.MaxParts+1, put("x")), "a", nil, api.ErrArg},
	} {
		if l, e := Invert(k.op, k.text); !slices.Equal(l, k.want) || e != k.e || e != api.OK && l != nil {
			t.Errorf("P6: %s: Invert = %s, %d, want %s, %d", k.about, shown(l), e, shown(k.want), k.e)
		}
	}
}

func TestInvertErrors(t *testing.T) {
	for _, k := range []struct {
		op   []api.Part
		text string
		e    api.Errno
	}{
		{op(keep(0)), "a", api.ErrArg},
		{op(gone(-1)), "a", api.ErrArg},
		{op(put("")), "a", api.ErrArg},
		{op(api.Part{}), "a", api.ErrArg},
		{op(put("\xff")), "a", api.ErrText},
		{op(put("\xc3"), put("\xa9")), "a", api.ErrText},
		{op(keep(1)), "", api.ErrLength},
		{op(keep(1), put("xxx"), gone(2)), "ab", api.ErrLength},
		{op(gone(2)), "é", api.ErrLength}, // characters, not bytes
		// several: the one named first
		{op(keep(0)), "\xff", api.ErrText},
		{op(keep(9)), "\xff", api.ErrText},
		{op(put("\xff"), keep(0)), "a", api.ErrArg},
		{op(keep(9), keep(0)), "a", api.ErrArg},
		{op(keep(9), put("\xff")), "a", api.ErrText},
	} {
		if l, e := Invert(k.op, k.text); l != nil || e != k.e {
			t.Errorf("P6: Invert(%v, %q) = %v, %d, want nil, %d", k.op, k.text, l, e, k.e)
		}
	}
}

func TestInvertTexts(t *testing.T) {
	for _, text := range goodTexts() {
		for _, s := range goodTexts() {
			in, want := op(keep(1), gone(1), put(s)), op(keep(1), put("x"), gone(len([]rune(s))))
			if l, e := Invert(in, "ax"+text); !slices.Equal(l, want) || e != api.OK {
				t.Errorf("P6: Invert(%v, %q) = %v, %d, want %v", in, "ax"+text, l, e, want)
			}
			in, want = op(keep(1), gone(len([]rune(text)))), op(keep(1), put(text))
			if l, e := Invert(in, "a"+text+s); !slices.Equal(l, want) || e != api.OK {
				t.Errorf("P6: Invert(%v, %q) = %v, %d, want %v", in, "a"+text+s, l, e, want)
			}
		}
	}
	for _, s := range badTexts() {
		if l, e := Invert(nil, s); l != nil || e != api.ErrText {
			t.Errorf("P6: Invert(nil, %q) = %v, %d", s, l, e)
		}
		if l, e := Invert(op(put(s)), "a"); l != nil || e != api.ErrText {
			t.Errorf("P6: Invert of Insert %q = %v, %d", s, l, e)
		}
	}
}
