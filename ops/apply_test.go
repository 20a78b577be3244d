package ops

import (
	"strings"
	"testing"

	"quill/api"
)

func TestApply(t *testing.T) {
	for _, k := range []struct {
		text string
		op   []api.Part
		want string
	}{
		// the document's example
		{"héllo", op(keep(1), gone(1), put("e")), "hello"},
		// nothing to do
		{"", nil, ""},
		{"aé世🐚", nil, "aé世🐚"},
		{"aé世🐚", op(keep(1), keep(3)), "aé世🐚"},
		// what is behind the last part stays
		{"aé世🐚", op(gone(1)), "é世🐚"},
		{"aé世🐚", op(keep(1), gone(1)), "a世🐚"},
		{"aé世🐚", op(put("x")), "xaé世🐚"},
		// each character stays or goes whole
		{"aé世🐚", op(keep(1), put("-"), keep(1), put("-"), keep(1), put("-"), keep(1), put("-")), "a-é-世-🐚-"},
		{"🐚世éa", op(gone(1), keep(1), gone(1), keep(1)), "世a"},
		{"e\u0301", op(keep(1), gone(1)), "e"},
		{"\ufffd\x00\ufffd", op(keep(1), gone(1)), "\ufffd\ufffd"},
		// all go
		{"aé世🐚", op(gone(4)), ""},
		{"aé世🐚", op(gone(1), gone(3), put("x")), "x"},
		// each gap
		{"", op(put("é"), put("世")), "é世"},
		{"ab", op(put("x"), keep(1), put("y"), keep(1), put("z")), "xaybz"},
		// what is put in behind characters that go
		{"abc", op(put("x"), gone(2), put("y")), "xyc"},
		{"abc", op(gone(1), put("x"), gone(1), put("y"), keep(1), put("z")), "xycz"},
	} {
		if s, e := Apply(k.text, k.op); s != k.want || e != api.OK {
			t.Errorf("P3: Apply(%q, %v) = %q, %d, want %q", k.text, k.op, s, e, k.want)
		}
	}
}

func TestApplyBounds(t *testing.T) {
	most := strings.Repeat("é", api.MaxPos)
	for _, k := range []struct {
		about, text string
		op          []api.Part
		want        string
		e           api.Errno
	}{
		{"nothing to MaxPos characters", most, nil, most, api.OK},
		{"all of MaxPos characters go", most, op(gone(api.MaxPos)), "", api.OK},
		{"the last of MaxPos characters", most, op(keep(api.MaxPos-1), gone(1), put("世")), most[2:] + "世", api.OK},
		{"it leaves more than MaxPos characters", most, op(keep(api.MaxPos), put("x")), most + "x", api.OK},
		{"a part more than MaxPos characters", most, op(keep(api.MaxPos), gone(1)), "", api.ErrLength},
		{"one character more", most + "a", nil, "", api.ErrArg},
		{"one more, and it would go", most + "a", op(gone(1)), "", api.ErrArg},
		{"one more, and bytes of the operation", most + "a", op(put("\xff")), "", api.ErrArg},
		{"one more, and bytes of the text", most + "a\xff", nil, "", api.ErrText},
		{"one more of bytes alone", most + "\xff", nil, "", api.ErrText},
		{"MaxParts parts", "a", times(api.MaxParts, put("x")), strings.Repeat("x", api.MaxParts) + "a", api.OK},
		{"one part more", "a", times(api.MaxParts+1, put("x")), "", api.ErrArg},
	} {
		if s, e := Apply(k.text, k.op); s != k.want || e != k.e {
			t.Errorf("P3: %s: %d bytes, %d, want %d bytes, %d", k.about, len(s), e, len(k.want), k.e)
		}
	}
}

func TestApplyErrors(t *testing.T) {
	for _, k := range []struct {
		text string
		op   []api.Part
		e    api.Errno
	}{
		{"a", op(keep(0)), api.ErrArg},
		{"a", op(gone(-1)), api.ErrArg},
		{"a", op(put("")), api.ErrArg},
		{"a", op(api.Part{}), api.ErrArg},
		{"a", op(put("\xff")), api.ErrText},
		{"a", op(put("\xc3"), put("\xa9")), api.ErrText},
		{"", op(keep(1)), api.ErrLength},
		{"ab", op(keep(3)), api.ErrLength},
		{"ab", op(keep(1), put("xxx"), gone(2)), api.ErrLength},
		{"é", op(gone(2)), api.ErrLength}, // characters, not bytes
		{"🐚", op(keep(2)), api.ErrLength},
		// several: the one named first
		{"\xff", op(keep(0)), api.ErrText},
		{"\xff", op(keep(9)), api.ErrText},
		{"a", op(put("\xff"), keep(0)), api.ErrArg},
		{"a", op(keep(9), keep(0)), api.ErrArg},
		{"a", op(keep(9), put("\xff")), api.ErrText},
	} {
		if s, e := Apply(k.text, k.op); s != "" || e != k.e {
			t.Errorf("P3: Apply(%q, %v) = %q, %d, want \"\", %d", k.text, k.op, s, e, k.e)
		}
	}
}

func TestApplyTexts(t *testing.T) {
	for _, text := range goodTexts() {
		for _, s := range goodTexts() {
			if got, e := Apply("x"+text, op(gone(1), put(s))); got != s+text || e != api.OK {
				t.Errorf("P3: Apply to %q of Delete 1, Insert %q = %q, %d", "x"+text, s, got, e)
			}
		}
	}
	for _, s := range badTexts() {
		if got, e := Apply(s, nil); got != "" || e != api.ErrText {
			t.Errorf("P3: Apply to %q of nothing = %q, %d", s, got, e)
		}
		if got, e := Apply("a", op(put(s))); got != "" || e != api.ErrText {
			t.Errorf("P3: Apply of Insert %q = %q, %d", s, got, e)
		}
	}
}
