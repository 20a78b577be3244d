package ops

import (
	"math"
	"slices"
	"strings"
	"testing"

	"quill/api"
)

func TestCompose(t *testing.T) {
	for _, k := range []struct {
		a, b []api.Part
		n    int
		want []api.Part
	}{
		// the document's example
		{op(put("ab")), op(keep(1), gone(2)), 3, op(put("a"), gone(1))},
		// nothing to do, in one of them or in both
		{nil, nil, 0, nil},
		{nil, nil, api.MaxPos, nil},
		{op(keep(2)), op(keep(1), keep(1)), 2, nil},
		{nil, op(gone(1), put("x"), keep(1)), 2, op(put("x"), gone(1))},
		{op(gone(1), put("x"), keep(1)), nil, 2, op(put("x"), gone(1))},
		{op(keep(1)), op(keep(2), put("x")), 2, op(keep(2), put("x"))},
		{op(keep(2), put("x")), op(keep(1)), 2, op(keep(2), put("x"))},
		// what a puts in goes again, whole or cut
		{op(put("abc")), op(gone(3)), 4, nil},
		{op(keep(1), put("aé世🐚")), op(keep(2), gone(2)), 1, op(keep(1), put("a🐚"))},
		{op(keep(1), put("aé世🐚")), op(gone(2)), 1, op(put("é世🐚"), gone(1))},
		{op(put("aé世🐚")), op(keep(3), gone(2)), 2, op(put("aé世"), gone(1))},
		{op(put("ab"), keep(1), put("cd")), op(keep(1), gone(3), keep(1)), 1, op(put("ad"), gone(1))},
		// what b puts in, within what a puts in and at its edges
		{op(put("é世")), op(put("x"), keep(1), put("y"), keep(1), put("z")), 0, op(put("xéy世z"))},
		{op(keep(1), put("é世")), op(keep(1), put("x"), keep(2), put("y"), keep(1), put("z")), 2, op(keep(1), put("xé世y"), keep(1), put("z"))},
		// behind characters that go
		{op(gone(1)), op(put("x")), 1, op(put("x"), gone(1))},
		{op(keep(1), gone(1)), op(keep(1), put("x")), 2, op(keep(1), put("x"), gone(1))},
		{op(gone(1), put("x")), op(keep(1), put("y")), 1, op(put("xy"), gone(1))},
		{op(gone(1), put("x")), op(put("y")), 1, op(put("yx"), gone(1))},
		{op(gone(1), put("a"), keep(1), put("b"), gone(1)), op(keep(1), gone(1), put("x")), 3, op(put("axb"), gone(3))},
		{op(keep(1), put("a")), op(gone(1), put("x"), keep(1), put("y")), 1, op(put("xay"), gone(1))},
		// what stays between them goes, and the two meet
		{op(gone(1), keep(1), gone(1)), op(gone(1)), 3, op(gone(3))},
		{op(put("a"), keep(1), put("b")), op(keep(1), gone(1)), 1, op(put("ab"), gone(1))},
		{op(keep(1), gone(1)), op(gone(1), keep(1), gone(1)), 4, op(gone(2), keep(1), gone(1))},
		{op(keep(1), put("a"), keep(1)), op(keep(1), gone(1), keep(1), put("x")), 2, op(keep(2), put("x"))},
		// a Keep at the end of what comes out
		{op(gone(1), keep(3), put("a")), op(keep(3), gone(1)), 4, op(gone(1))},
		{op(put("a"), keep(2)), op(gone(1), keep(2)), 2, nil},
		// b reads on behind a's last part, and behind what a puts in
		{op(put("ab")), op(keep(4), gone(1)), 3, op(put("ab"), keep(2), gone(1))},
		{op(keep(1), gone(1)), op(keep(2), gone(2)), 5, op(keep(1), gone(1), keep(1), gone(2))},
	} {
		if l, e := Compose(k.a, k.b, k.n); !slices.Equal(l, k.want) || e != api.OK {
			t.Errorf("P4: Compose(%v, %v, %d) = %v, %d, want %v", k.a, k.b, k.n, l, e, k.want)
		}
	}
}

func TestComposeBounds(t *testing.T) {
	long := strings.Repeat("é", api.MaxPos)
	for _, k := range []struct {
		about string
		a, b  []api.Part
		n     int
		want  []api.Part
		e     api.Errno
	}{
		{"all of MaxPos characters", op(gone(api.MaxPos)), op(put("x")), api.MaxPos, op(put("x"), gone(api.MaxPos)), api.OK},
		{"the last of MaxPos", op(keep(api.MaxPos-1), gone(1)), op(keep(api.MaxPos-1), put("x")), api.MaxPos, op(keep(api.MaxPos-1), put("x"), gone(1)), api.OK},
		{"a leaves MaxPos", op(put("x")), op(keep(api.MaxPos-1), gone(1)), api.MaxPos - 1, op(put("x"), keep(api.MaxPos-2), gone(1)), api.OK},
		{"a leaves MaxPos of MaxPos", op(put("éx"), gone(2)), op(gone(api.MaxPos)), api.MaxPos, op(gone(api.MaxPos)), api.OK},
		{"a leaves MaxPos of none", op(put(long)), op(keep(api.MaxPos-1), gone(1), put("x")), 0, op(put(long[2:] + "x")), api.OK},
		{"a leaves one more", op(put("x")), nil, api.MaxPos, nil, api.ErrArg},
		{"a leaves one more at the end", op(keep(api.MaxPos), put("x")), op(gone(1)), api.MaxPos, nil, api.ErrArg},
		{"a leaves one more, some go", op(gone(1), put("xé")), nil, api.MaxPos, nil, api.ErrArg},
		{"a leaves one more of none", op(put(long), put("x")), op(gone(1)), 0, nil, api.ErrArg},
		{"a leaves many more", times(api.MaxParts, put(long)), nil, 0, nil, api.ErrArg},
		{"a leaves more, and b has an error", op(put("x")), op(put("\xff")), api.MaxPos, nil, api.ErrArg},
		{"a leaves more, and b is too long", op(put("x")), op(keep(api.MaxPos), keep(api.MaxPos)), api.MaxPos, nil, api.ErrArg},
		{"a leaves more, and has bytes", op(put("x\xff")), nil, api.MaxPos, nil, api.ErrText},
		{"a leaves more, and is too long", op(put("x"), keep(api.MaxPos), keep(1)), nil, api.MaxPos, nil, api.ErrLength},
		{"b leaves more, which is no error", nil, op(keep(api.MaxPos), put("x")), api.MaxPos, op(keep(api.MaxPos), put("x")), api.OK},
		{"MaxParts parts in a", times(api.MaxParts, put("x")), op(keep(api.MaxParts), gone(1)), 1, op(put(strings.Repeat("x", api.MaxParts)), gone(1)), api.OK},
		{"MaxParts parts in b", op(gone(1)), times(api.MaxParts, put("x")), 1, op(put(strings.Repeat("x", api.MaxParts)), gone(1)), api.OK},
		{"one part more in a", append(times(api.MaxParts, put("x")), gone(1)), nil, 1, nil, api.ErrArg},
		{"one part more in b", nil, append(times(api.MaxParts, put("x")), gone(1)), 1, nil, api.ErrArg},
	} {
		if l, e := Compose(k.a, k.b, k.n); !slices.Equal(l, k.want) || e != k.e || e != api.OK && l != nil {
			t.Errorf("P4: %s: Compose = %s, %d, want %s, %d", k.about, shown(l), e, shown(k.want), k.e)
		}
	}
}

func TestComposeGivesMoreThanMaxParts(t *testing.T) {
	puts := times(api.MaxParts/2, keep(1), put("é"))
	goes := times(api.MaxParts/2-1, keep(1), gone(1))
	b := append(op(keep(api.MaxParts)), goes...) // behind all that the first one puts in
	want := append(slices.Clone(puts), goes...)
	if l, e := Compose(puts, b, 2*api.MaxParts); !slices.Equal(l, want) || e != api.OK {
		t.Errorf("P4: Compose(%v, %v, %d) = %v, %d, want %v", puts, b, 2*api.MaxParts, l, e, want)
	}
}

func TestComposeErrors(t *testing.T) {
	for _, k := range []struct {
		a, b []api.Part
		n    int
		e    api.Errno
	}{
		// n
		{nil, nil, -1, api.ErrArg},
		{nil, nil, math.MinInt, api.ErrArg},
		{nil, nil, api.MaxPos + 1, api.ErrArg},
		{nil, nil, math.MaxInt, api.ErrArg},
		{op(gone(1)), nil, api.MaxPos + 1, api.ErrArg}, // though a would leave MaxPos
		{op(put("a")), nil, -1, api.ErrArg},            // though a would leave none
		// those of a
		{op(keep(0)), nil, 2, api.ErrArg},
		{op(gone(-1)), nil, 2, api.ErrArg},
		{op(put("")), nil, 2, api.ErrArg},
		{op(api.Part{}), nil, 2, api.ErrArg},
		{op(put("\xff")), nil, 2, api.ErrText},
		{op(gone(3)), nil, 2, api.ErrLength},
		{op(put("abc"), keep(3)), nil, 2, api.ErrLength},
		// those of b
		{nil, op(keep(0)), 2, api.ErrArg},
		{nil, op(gone(-1)), 2, api.ErrArg},
		{nil, op(put("")), 2, api.ErrArg},
		{nil, op(api.Part{}), 2, api.ErrArg},
		{nil, op(put("\xff")), 2, api.ErrText},
		{nil, op(gone(3)), 2, api.ErrLength},
		// b's on what a leaves: characters, not bytes
		{op(gone(1)), op(keep(2)), 2, api.ErrLength},
		{op(gone(2)), op(gone(1)), 2, api.ErrLength},
		{op(put("ab")), op(keep(5)), 2, api.ErrLength},
		{op(put("é世🐚")), op(keep(6)), 2, api.ErrLength},
		{op(put("ab"), gone(2)), op(keep(2), gone(1)), 2, api.ErrLength},
		// several: those of a ahead of those of b, and each one's in their order
		{op(keep(0)), op(put("\xff")), 2, api.ErrArg},
		{op(put("\xff")), op(keep(0)), 2, api.ErrText},
		{op(keep(9)), op(keep(0)), 2, api.ErrLength},
		{op(keep(9)), op(put("\xff")), 2, api.ErrLength},
		{op(put("\xff")), op(keep(9)), 2, api.ErrText},
		{op(keep(9), put("\xff"), put("")), nil, 2, api.ErrArg},
		{op(keep(9), put("\xff")), nil, 2, api.ErrText},
		{nil, op(keep(9), put("\xff"), put("")), 2, api.ErrArg},
		{nil, op(keep(9), put("\xff")), 2, api.ErrText},
		{op(put("\xff")), op(put("\xff")), -1, api.ErrArg},
	} {
		if l, e := Compose(k.a, k.b, k.n); l != nil || e != k.e {
			t.Errorf("P4: Compose(%v, %v, %d) = %v, %d, want nil, %d", k.a, k.b, k.n, l, e, k.e)
		}
	}
	for _, s := range badTexts() {
		l, e := Compose(op(put("a"), put(s)), nil, 2)
		m, f := Compose(nil, op(put("a"), put(s)), 2)
		if l != nil || e != api.ErrText || m != nil || f != api.ErrText {
			t.Errorf("P4: Compose with Insert %q = %v, %d; %v, %d", s, l, e, m, f)
		}
	}
}
