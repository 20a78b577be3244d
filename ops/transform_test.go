package ops

import (
	"math"
	"slices"
	"strings"
	"testing"

	"quill/api"
)

func TestTransform(t *testing.T) {
	for _, k := range []struct {
		a, b   []api.Part
		n      int
		first  []api.Part
		second []api.Part
	}{
		// the document's example
		{op(keep(1), put("A")), op(keep(1), put("B"), gone(1)), 2, op(keep(1), put("A")), op(keep(2), put("B"), gone(1))},
		// nothing to do, in one of them or in both
		{nil, nil, 0, nil, nil},
		{op(keep(2)), op(keep(1), keep(1)), 2, nil, nil},
		{nil, op(gone(1), put("x"), keep(1)), 2, nil, op(put("x"), gone(1))},
		{op(gone(1), put("x"), keep(1)), nil, 2, op(put("x"), gone(1)), nil},
		// both at one gap: what a puts in stands first
		{op(put("é世")), op(put("🐚")), 0, op(put("é世")), op(keep(2), put("🐚"))},
		{op(put("🐚")), op(put("é世")), 0, op(put("🐚")), op(keep(1), put("é世"))},
		{op(keep(2), put("A")), op(keep(2), put("B")), 2, op(keep(2), put("A")), op(keep(3), put("B"))},
		{op(put("a"), put("b")), op(put("c"), keep(1), put("d")), 1, op(put("ab")), op(keep(2), put("c"), keep(1), put("d"))},
		// at one gap by the normal forms alone: what stands behind characters that go is ahead of them
		{op(gone(1), put("A")), op(put("B")), 1, op(put("A"), keep(1), gone(1)), op(keep(1), put("B"))},
		{op(keep(1), gone(1), put("A")), op(keep(1), put("B"), gone(1)), 2, op(keep(1), put("A")), op(keep(2), put("B"))},
		// and at two: b's is behind a character that a lets go
		{op(gone(1), put("A")), op(keep(1), put("B")), 1, op(put("A"), gone(1)), op(keep(1), put("B"))},
		{op(keep(1), put("A")), op(gone(1), put("B")), 1, op(keep(1), put("A")), op(put("B"), gone(1))},
		{op(put("A"), gone(2)), op(keep(1), put("B")), 2, op(put("A"), gone(1), keep(1), gone(1)), op(keep(1), put("B"))},
		{op(keep(1), put("A")), op(put("B"), gone(2)), 2, op(keep(1), put("A")), op(put("B"), gone(1), keep(1), gone(1))},
		{op(keep(2), put("A")), op(keep(1), put("B")), 2, op(keep(3), put("A")), op(keep(1), put("B"))},
		// characters that both let go
		{op(gone(2)), op(gone(2)), 2, nil, nil},
		{op(gone(2)), op(keep(1), gone(2)), 3, op(gone(1)), op(gone(1))},
		{op(keep(1), gone(1)), op(gone(3)), 3, nil, op(gone(2))},
		{op(gone(3), keep(1), gone(1)), op(keep(1), gone(1)), 5, op(gone(2), keep(1), gone(1)), nil},
		{op(gone(1), keep(1), gone(1)), op(keep(1), gone(1)), 3, op(gone(2)), op(gone(1))},
		// what is put in where the other lets all go about it
		{op(keep(1), put("é")), op(gone(2)), 2, op(put("é")), op(gone(1), keep(1), gone(1))},
		{op(gone(2)), op(keep(1), put("é世")), 2, op(gone(1), keep(2), gone(1)), op(put("é世"))},
		{op(gone(1), keep(1), put("A")), op(keep(1), gone(1)), 2, op(put("A"), gone(1)), op(gone(1))},
		// a Keep at the end
		{op(gone(1), keep(2)), op(keep(3)), 3, op(gone(1)), nil},
		{op(put("A"), keep(1)), op(keep(1), gone(1), keep(1)), 3, op(put("A")), op(keep(2), gone(1))},
		{op(keep(2), gone(1)), op(keep(2), gone(1)), 3, nil, nil},
		// one reads on behind the other's last part
		{op(gone(1)), op(keep(4), put("B"), gone(1)), 5, op(gone(1)), op(keep(3), put("B"), gone(1))},
		{op(keep(4), put("A"), gone(1)), op(put("é世")), 5, op(keep(6), put("A"), gone(1)), op(put("é世"))},
	} {
		first, second, e := Transform(k.a, k.b, k.n)
		if !slices.Equal(first, k.first) || !slices.Equal(second, k.second) || e != api.OK {
			t.Errorf("P5: Transform(%v, %v, %d) = %v, %v, %d, want %v, %v", k.a, k.b, k.n, first, second, e, k.first, k.second)
		}
	}
}

func TestTransformBounds(t *testing.T) {
	long := strings.Repeat("é", api.MaxPos)
	for _, k := range []struct {
		about         string
		a, b          []api.Part
		n             int
		first, second []api.Part
		e             api.Errno
	}{
		{"all of MaxPos characters go", op(gone(api.MaxPos)), op(keep(1), gone(api.MaxPos-1)), api.MaxPos, op(gone(1)), nil, api.OK},
		{"at both ends of MaxPos characters", op(gone(1)), op(keep(api.MaxPos), put("x")), api.MaxPos, op(gone(1)), op(keep(api.MaxPos-1), put("x")), api.OK},
		{"behind MaxPos characters", op(keep(api.MaxPos), put("x")), op(keep(api.MaxPos), put("y")), api.MaxPos, op(keep(api.MaxPos), put("x")), op(keep(api.MaxPos+1), put("y")), api.OK},
		{"a Text of MaxPos characters", op(put(long)), op(put("x")), 0, op(put(long)), op(keep(api.MaxPos), put("x")), api.OK},
		{"MaxParts parts in a", times(api.MaxParts, put("x")), op(gone(1)), 1, op(put(strings.Repeat("x", api.MaxParts))), op(keep(api.MaxParts), gone(1)), api.OK},
		{"MaxParts parts in b", op(gone(1)), times(api.MaxParts, put("x")), 1, op(keep(api.MaxParts), gone(1)), op(put(strings.Repeat("x", api.MaxParts))), api.OK},
		{"one part more in a", times(api.MaxParts+1, put("x")), nil, 1, nil, nil, api.ErrArg},
		{"one part more in b", nil, times(api.MaxParts+1, put("x")), 1, nil, nil, api.ErrArg},
	} {
		first, second, e := Transform(k.a, k.b, k.n)
		if !slices.Equal(first, k.first) || !slices.Equal(second, k.second) || e != k.e || e != api.OK && (first != nil || second != nil) {
			t.Errorf("P5: %s: Transform = %s, %s, %d, want %s, %s, %d", k.about, shown(first), shown(second), e, shown(k.first), shown(k.second), k.e)
		}
	}
}

// TestTransformGivesMoreThanMaxParts: one lets all go, the other puts something in at each gap.
func TestTransformGivesMoreThanMaxParts(t *testing.T) {
	goes, puts := op(gone(api.MaxParts)), times(api.MaxParts/2, keep(1), put("é"))
	cut := append(times(api.MaxParts/2, gone(1), keep(1)), gone(api.MaxParts/2))
	joined := op(put(strings.Repeat("é", api.MaxParts/2)))
	first, second, e := Transform(goes, puts, api.MaxParts)
	if !slices.Equal(first, cut) || !slices.Equal(second, joined) || e != api.OK {
		t.Errorf("P5: Transform(%v, %v, %d) = %v, %v, %d", goes, puts, api.MaxParts, first, second, e)
	}
	first, second, e = Transform(puts, goes, api.MaxParts)
	if !slices.Equal(first, joined) || !slices.Equal(second, cut) || e != api.OK {
		t.Errorf("P5: Transform(%v, %v, %d) = %v, %v, %d", puts, goes, api.MaxParts, first, second, e)
	}
}

func TestTransformErrors(t *testing.T) {
	for _, k := range []struct {
		a, b []api.Part
		n    int
		e    api.Errno
	}{
		// n
		{nil, nil, -1, api.ErrArg},
		{nil, nil, math.MinInt, api.ErrArg},
		{nil, nil, api.MaxPos + 1, api.ErrArg},
		{nil, nil, math.MaxInt, api.ErrArg},
		// those of a
		{op(keep(0)), nil, 2, api.ErrArg},
		{op(gone(-1)), nil, 2, api.ErrArg},
		{op(put("")), nil, 2, api.ErrArg},
		{op(api.Part{}), nil, 2, api.ErrArg},
		{op(put("\xff")), nil, 2, api.ErrText},
		{op(gone(3)), nil, 2, api.ErrLength},
		{op(put("abc"), keep(3)), nil, 2, api.ErrLength},
		// those of b
		{nil, op(keep(0)), 2, api.ErrArg},
		{nil, op(gone(-1)), 2, api.ErrArg},
		{nil, op(put("")), 2, api.ErrArg},
		{nil, op(api.Part{}), 2, api.ErrArg},
		{nil, op(put("\xff")), 2, api.ErrText},
		{nil, op(gone(3)), 2, api.ErrLength},
		// b's on the first text, not on what a leaves
		{op(put("abc")), op(keep(3)), 2, api.ErrLength},
		// several: those of a ahead of those of b, and each one's in their order
		{op(keep(0)), op(put("\xff")), 2, api.ErrArg},
		{op(put("\xff")), op(keep(0)), 2, api.ErrText},
		{op(keep(9)), op(keep(0)), 2, api.ErrLength},
		{op(keep(9)), op(put("\xff")), 2, api.ErrLength},
		{op(put("\xff")), op(keep(9)), 2, api.ErrText},
		{op(keep(9), put("\xff"), put("")), nil, 2, api.ErrArg},
		{op(keep(9), put("\xff")), nil, 2, api.ErrText},
		{nil, op(keep(9), put("\xff"), put("")), 2, api.ErrArg},
		{nil, op(keep(9), put("\xff")), 2, api.ErrText},
		{op(put("\xff")), op(put("\xff")), -1, api.ErrArg},
	} {
		if first, second, e := Transform(k.a, k.b, k.n); first != nil || second != nil || e != k.e {
			t.Errorf("P5: Transform(%v, %v, %d) = %v, %v, %d, want nil, nil, %d", k.a, k.b, k.n, first, second, e, k.e)
		}
	}
	for _, s := range badTexts() {
		bad := op(put("a"), put(s))
		if first, second, e := Transform(bad, nil, 2); first != nil || second != nil || e != api.ErrText {
			t.Errorf("P5: Transform(%v, nil, 2) = %v, %v, %d", bad, first, second, e)
		}
		if first, second, e := Transform(nil, bad, 2); first != nil || second != nil || e != api.ErrText {
			t.Errorf("P5: Transform(nil, %v, 2) = %v, %v, %d", bad, first, second, e)
		}
	}
}

// TestTransformLengthOfB: what a lets go is still there for b.
func TestTransformLengthOfB(t *testing.T) {
	first, second, e := Transform(op(gone(2)), op(keep(2), put("B")), 2)
	if !slices.Equal(first, op(gone(2))) || !slices.Equal(second, op(put("B"))) || e != api.OK {
		t.Errorf("P5: Transform = %v, %v, %d", first, second, e)
	}
}
