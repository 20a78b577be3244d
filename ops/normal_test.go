package ops

import (
	"math"
	"slices"
	"strings"
	"testing"

	"quill/api"
)

func TestNormal(t *testing.T) {
	for _, k := range []struct {
		op   []api.Part
		n    int
		want []api.Part
	}{
		// the document's examples
		{op(gone(1), put("a"), keep(2), keep(1)), 4, op(put("a"), gone(1))},
		{op(put("a"), put("b"), gone(1), put("c")), 1, op(put("abc"), gone(1))},
		// nothing to do
		{nil, 0, nil},
		{op(), 5, nil},
		{nil, api.MaxPos, nil},
		// a Keep at the end
		{op(keep(1)), 1, nil},
		{op(keep(1), keep(2)), 3, nil},
		{op(keep(api.MaxPos)), api.MaxPos, nil},
		{op(put("a"), keep(1)), 1, op(put("a"))},
		{op(gone(1), keep(1), keep(1)), 3, op(gone(1))},
		{op(keep(1), put("a"), keep(1)), 2, op(keep(1), put("a"))},
		// two of one kind
		{op(keep(1), keep(2), put("a")), 3, op(keep(3), put("a"))},
		{op(gone(1), gone(2)), 3, op(gone(3))},
		{op(put("é"), put("世"), put("🐚")), 0, op(put("é世🐚"))},
		// what is put in behind characters that go
		{op(gone(1), put("a")), 1, op(put("a"), gone(1))},
		{op(gone(1), put("a"), gone(1), put("b")), 2, op(put("ab"), gone(2))},
		{op(put("a"), gone(1), put("b"), gone(1)), 2, op(put("ab"), gone(2))},
		{op(keep(1), gone(1), put("a"), gone(1), keep(1), gone(1), put("b")), 5, op(keep(1), put("a"), gone(2), keep(1), put("b"), gone(1))},
		// a Keep between them parts them
		{op(gone(1), keep(1), put("a")), 2, op(gone(1), keep(1), put("a"))},
		{op(gone(1), keep(1), gone(1)), 3, op(gone(1), keep(1), gone(1))},
		{op(put("a"), keep(1), put("b")), 1, op(put("a"), keep(1), put("b"))},
		// bounds
		{op(gone(api.MaxPos)), api.MaxPos, op(gone(api.MaxPos))},
		{op(keep(api.MaxPos), put("a")), api.MaxPos, op(keep(api.MaxPos), put("a"))},
		{op(keep(api.MaxPos-1), gone(1)), api.MaxPos, op(keep(api.MaxPos-1), gone(1))},
		{times(api.MaxParts, put("a")), 0, op(put(strings.Repeat("a", api.MaxParts)))},
		{times(api.MaxParts, keep(1)), api.MaxParts, nil},
		{times(api.MaxParts/2, keep(1), gone(1)), api.MaxParts, times(api.MaxParts/2, keep(1), gone(1))},
		// a Text has no bound of its own
		{op(put(strings.Repeat("世", api.MaxPos+1))), 0, op(put(strings.Repeat("世", api.MaxPos+1)))},
	} {
		if l, e := Normal(k.op, k.n); !slices.Equal(l, k.want) || e != api.OK {
			t.Errorf("P2: Normal(%s, %d) = %s, %d, want %s", shown(k.op), k.n, shown(l), e, shown(k.want))
		}
	}
}

func TestNormalErrors(t *testing.T) {
	for _, k := range []struct {
		op []api.Part
		n  int
		e  api.Errno
	}{
		// n
		{nil, -1, api.ErrArg},
		{nil, math.MinInt, api.ErrArg},
		{nil, api.MaxPos + 1, api.ErrArg},
		{nil, math.MaxInt, api.ErrArg},
		// how many parts
		{times(api.MaxParts+1, put("a")), 0, api.ErrArg},
		{times(api.MaxParts+1, keep(1)), api.MaxPos, api.ErrArg},
		{times(100000, gone(1)), api.MaxPos, api.ErrArg},
		// parts that are not right
		{op(keep(0)), 3, api.ErrArg},
		{op(gone(0)), 3, api.ErrArg},
		{op(keep(-1)), 3, api.ErrArg},
		{op(gone(-1)), 3, api.ErrArg},
		{op(keep(math.MinInt)), 3, api.ErrArg},
		{op(keep(api.MaxPos + 1)), api.MaxPos, api.ErrArg},
		{op(gone(api.MaxPos + 1)), api.MaxPos, api.ErrArg},
		{op(keep(math.MaxInt), gone(math.MaxInt)), 3, api.ErrArg},
		{op(put("")), 3, api.ErrArg},
		{op(api.Part{Kind: api.Keep, N: 1, Text: "a"}), 3, api.ErrArg},
		{op(api.Part{Kind: api.Delete, N: 1, Text: "a"}), 3, api.ErrArg},
		{op(api.Part{Kind: api.Insert, N: 1, Text: "a"}), 3, api.ErrArg},
		{op(api.Part{Kind: api.Insert, N: -1, Text: "a"}), 3, api.ErrArg},
		{op(api.Part{}), 3, api.ErrArg},
		{op(api.Part{Kind: 4, N: 1}), 3, api.ErrArg},
		{op(api.Part{Kind: -1, N: 1}), 3, api.ErrArg},
		{op(api.Part{Kind: math.MaxInt, Text: "a"}), 3, api.ErrArg},
		{op(keep(1), gone(1), put("a"), put("")), 3, api.ErrArg},
		// bytes that are no characters, even if two Texts have those of one
		{op(put("\xc3"), put("\xa9")), 0, api.ErrText},
		{op(keep(1), put("a"), put("a\xff")), 3, api.ErrText},
		// length
		{op(keep(1)), 0, api.ErrLength},
		{op(gone(1)), 0, api.ErrLength},
		{op(keep(3)), 2, api.ErrLength},
		{op(keep(1), gone(2)), 2, api.ErrLength},
		{op(keep(1), put("aaa"), keep(1), gone(1)), 2, api.ErrLength},
		{op(keep(api.MaxPos), keep(1)), api.MaxPos, api.ErrLength},
		{op(gone(1), gone(api.MaxPos)), api.MaxPos, api.ErrLength},
		{times(api.MaxParts, keep(api.MaxPos)), api.MaxPos, api.ErrLength},
		// several: the one named first
		{op(put("\xff")), -1, api.ErrArg},
		{op(keep(1), put("\xff")), api.MaxPos + 1, api.ErrArg},
		{times(api.MaxParts+1, put("\xff")), 0, api.ErrArg},
		{times(api.MaxParts+1, keep(1)), 0, api.ErrArg},
		{op(put("\xff"), keep(0)), 3, api.ErrArg},
		{op(keep(9), put("\xff"), put("")), 3, api.ErrArg},
		{op(keep(9), keep(0)), 3, api.ErrArg},
		{op(api.Part{Kind: api.Insert, N: 1, Text: "\xff"}), 3, api.ErrArg},
		{op(api.Part{Kind: api.Keep, N: 1, Text: "\xff"}), 3, api.ErrArg},
		{op(api.Part{Kind: 9, Text: "\xff"}), 3, api.ErrArg},
		{op(keep(9), put("\xff")), 3, api.ErrText},
		{op(put("\xff"), gone(9)), 3, api.ErrText},
	} {
		if l, e := Normal(k.op, k.n); l != nil || e != k.e {
			t.Errorf("P2: Normal(%s, %d) = %s, %d, want nil, %d", shown(k.op), k.n, shown(l), e, k.e)
		}
	}
}

func TestNormalTexts(t *testing.T) {
	for _, s := range goodTexts() {
		if l, e := Normal(op(put(s), put("a")), 0); !slices.Equal(l, op(put(s+"a"))) || e != api.OK {
			t.Errorf("P2: Normal of Insert %q, Insert \"a\" = %s, %d", s, shown(l), e)
		}
	}
	for _, s := range badTexts() {
		if l, e := Normal(op(put("a"), put(s)), 0); l != nil || e != api.ErrText {
			t.Errorf("P2: Normal of Insert \"a\", Insert %q = %s, %d", s, shown(l), e)
		}
	}
}

// TestOnePart goes through one part and a length at all the numbers where an answer may change.
func TestOnePart(t *testing.T) {
	numbers := []int{math.MinInt, -api.MaxPos, -1, 0, 1, 2, 3, 4, api.MaxPos - 1, api.MaxPos, api.MaxPos + 1, math.MaxInt}
	for _, kind := range numbers {
		for _, n := range numbers {
			for _, text := range []string{"", "é", "\xff"} {
				for _, length := range numbers {
					p := api.Part{Kind: kind, N: n, Text: text}
					want, e := onePart(p, length)
					if l, f := Normal(op(p), length); !slices.Equal(l, want) || f != e || e != api.OK && l != nil {
						t.Errorf("P2: Normal(%v, %d) = %v, %d, want %v, %d", p, length, l, f, want, e)
					}
				}
			}
		}
	}
}

func onePart(p api.Part, length int) ([]api.Part, api.Errno) {
	counted := (p.Kind == api.Keep || p.Kind == api.Delete) && 0 < p.N && p.N <= api.MaxPos && p.Text == ""
	inserted := p.Kind == api.Insert && p.N == 0 && len(p.Text) > 0
	switch {
	case length < 0 || length > api.MaxPos || !counted && !inserted:
		return nil, api.ErrArg
	case p.Text == "\xff":
		return nil, api.ErrText
	case p.N > length:
		return nil, api.ErrLength
	case p.Kind == api.Keep:
		return nil, api.OK
	}
	return op(p), api.OK
}
