package quill

import (
	"math"
	"strings"
	"testing"

	"quill/api"
)

func TestEdit(t *testing.T) {
	for _, k := range []struct {
		at, gone int
		text     string
		want     string
		op       []api.Part
	}{
		{0, 0, "x", "xaé世🐚", []api.Part{put("x")}},
		{4, 0, "x", "aé世🐚x", []api.Part{keep(4), put("x")}},
		{1, 2, "", "a🐚", []api.Part{keep(1), gone(2)}},
		{2, 1, "ñ界", "aéñ界🐚", []api.Part{keep(2), put("ñ界"), gone(1)}},
		{3, 1, "", "aé世", []api.Part{keep(3), gone(1)}},
		{0, 4, "", "", []api.Part{gone(4)}},
		{0, 4, "🐙", "🐙", []api.Part{put("🐙"), gone(4)}},
		{0, 4, "aé世🐚", "aé世🐚", []api.Part{put("aé世🐚"), gone(4)}},
		{1, 0, "\ufffd\x00", "a\ufffd\x00é世🐚", []api.Part{keep(1), put("\ufffd\x00")}},
	} {
		s := joined(t, "aé世🐚", 2)
		edits(t, s, 0, k.at, k.gone, k.text, api.OK)
		clientIs(t, s, 0, k.want, 0, api.Waiting)
		clientIs(t, s, 1, "aé世🐚", 0, api.Calm)
		serverIs(t, s, "aé世🐚")
		wants(t, s, "up 0", api.OK)
		serverIs(t, s, k.want, by(0, k.op...))
		wants(t, s, "down 0, down 1", api.OK)
		clientIs(t, s, 0, k.want, 1, api.Calm)
		clientIs(t, s, 1, k.want, 1, api.Calm)
	}
}

// TestEditsOfNothing: they change nothing in any state, and nothing is sent.
func TestEditsOfNothing(t *testing.T) {
	s, twin := busy(t), busy(t)
	for c := range 3 {
		text, _, _, _ := s.Client(c)
		for at := range len([]rune(text)) + 1 {
			edits(t, s, c, at, 0, "", api.OK)
		}
	}
	if now, was := told(s), told(twin); now != was {
		t.Errorf("P9: edits of nothing made %s of %s", now, was)
	}
	wants(t, s, "up 0, up 2", api.ErrNone)
}

// TestEditGathers: what a Buffered client does is one operation.
func TestEditGathers(t *testing.T) {
	s := joined(t, "aé世🐚", 1)
	edits(t, s, 0, 4, 0, ".", api.OK)
	edits(t, s, 0, 1, 1, "xy", api.OK)
	clientIs(t, s, 0, "axy世🐚.", 0, api.Buffered)
	edits(t, s, 0, 2, 2, "z", api.OK)
	clientIs(t, s, 0, "axz🐚.", 0, api.Buffered)
	edits(t, s, 0, 0, 1, "", api.OK)
	edits(t, s, 0, 4, 0, "!", api.OK)
	clientIs(t, s, 0, "xz🐚.!", 0, api.Buffered)
	wants(t, s, "up 0", api.OK)
	wants(t, s, "up 0", api.ErrNone)
	serverIs(t, s, "aé世🐚.", by(0, keep(4), put(".")))
	wants(t, s, "down 0", api.OK)
	clientIs(t, s, 0, "xz🐚.!", 1, api.Waiting)
	wants(t, s, "up 0", api.OK)
	serverIs(t, s, "xz🐚.!", by(0, keep(4), put(".")), by(0, put("xz"), gone(3), keep(2), put("!")))
}

func TestEditErrors(t *testing.T) {
	long := strings.Repeat("é", api.MaxText+1)
	for _, state := range []int{api.Calm, api.Waiting, api.Buffered} {
		s := joined(t, "aé世🐚", 2)
		for range state - api.Calm {
			edits(t, s, 1, 0, 1, "a", api.OK)
		}
		clientIs(t, s, 1, "aé世🐚", 0, state)
		was := told(s)
		// ErrArg comes ahead of all that is wrong with the text.
		for _, k := range [][2]int{
			{-1, 0}, {0, -1}, {-1, -1}, {-1, 5}, {5, -1}, {5, 0}, {4, 1}, {0, 5}, {2, 3}, {3, 2},
			{math.MinInt, 0}, {0, math.MinInt}, {math.MinInt, math.MinInt}, {math.MinInt, math.MaxInt},
			{math.MaxInt, 0}, {0, math.MaxInt}, {1, math.MaxInt}, {math.MaxInt, 1}, {4, math.MaxInt}, {5, math.MaxInt - 4},
			{math.MaxInt, math.MaxInt}, {1 << 62, 1 << 62}, {math.MaxInt - 1, 3}, {math.MaxInt, math.MinInt},
		} {
			for _, text := range []string{"", "a", "\xff", long, long + "\xff"} {
				edits(t, s, 1, k[0], k[1], text, api.ErrArg)
			}
		}
		for _, bad := range badTexts() {
			edits(t, s, 1, 4, 0, bad, api.ErrText)
			edits(t, s, 1, 0, 4, "a"+bad, api.ErrText)
			edits(t, s, 1, 0, 0, long+bad, api.ErrText)
		}
		edits(t, s, 1, 0, 4, long, api.ErrLong)
		edits(t, s, 1, 2, 0, long[:2*(api.MaxText-3)], api.ErrLong)
		edits(t, s, 1, 2, 2, long[:2*(api.MaxText-1)], api.ErrLong)
		if now := told(s); now != was {
			t.Errorf("P1: errors made %s of %s", now, was)
		}
	}
}

func TestEditOfOneThatIsAway(t *testing.T) {
	s := begun(t, "ab", 2)
	wants(t, s, "join 0", api.OK)
	for _, text := range []string{"", "a", "\xff", strings.Repeat("a", api.MaxText+1)} {
		for _, k := range [][2]int{{0, 0}, {-1, 0}, {0, -1}, {1, 0}, {0, 1}, {math.MaxInt, math.MaxInt}} {
			edits(t, s, 1, k[0], k[1], text, api.ErrJoined)
		}
	}
	clientIs(t, s, 1, "", 0, api.Away)
	wants(t, s, "up 1", api.ErrNone)
}

func TestEditUpToMaxText(t *testing.T) {
	full := strings.Repeat("🐚", api.MaxText)
	for _, k := range []struct {
		had      string
		at, gone int
		text     string
		want     api.Errno
	}{
		{"", 0, 0, full, api.OK},
		{"", 0, 0, full + "a", api.ErrLong},
		{"ab", 0, 2, full, api.OK},
		{"ab", 0, 2, full + "a", api.ErrLong},
		{"ab", 0, 1, full, api.ErrLong},
		{"ab", 2, 0, full[8:], api.OK},
		{"ab", 2, 0, full[4:], api.ErrLong},
		{full, 0, 0, "", api.OK},
		{full, 0, 0, "a", api.ErrLong},
		{full, api.MaxText, 0, "a", api.ErrLong},
		{full, api.MaxText - 1, 1, "a", api.OK},
		{full, api.MaxText - 1, 1, "ab", api.ErrLong},
		{full, 0, api.MaxText, full, api.OK},
		{full, 0, api.MaxText, full + "a", api.ErrLong},
	} {
		s := joined(t, k.had, 1)
		edits(t, s, 0, k.at, k.gone, k.text, k.want)
		had := []rune(k.had)
		want, state := string(had[:k.at])+k.text+string(had[k.at+k.gone:]), api.Waiting
		if k.want != api.OK {
			want, state = k.had, api.Calm
		} else if k.gone == 0 && k.text == "" {
			state = api.Calm
		}
		clientIs(t, s, 0, want, 0, state)
	}
}

// TestTextsBeyondMaxText: what several clients put in may come to more than MaxText together;
// only an edit is held to it, even one that would do nothing or make the text shorter.
func TestTextsBeyondMaxText(t *testing.T) {
	s := begun(t, "", api.MaxClients)
	whole := ""
	for c := range api.MaxClients {
		if e := s.Join(c); e != api.OK {
			t.Fatalf("P8: Join(%d) = %d", c, e)
		}
	}
	for c := range api.MaxClients {
		text := strings.Repeat(string(rune('0'+c)), api.MaxText)
		edits(t, s, c, 0, 0, text, api.OK)
		whole += text
	}
	for c := range api.MaxClients {
		if e := s.Up(c); e != api.OK {
			t.Fatalf("P10: Up(%d) = %d", c, e)
		}
	}
	for c := range api.MaxClients {
		for range api.MaxClients {
			if e := s.Down(c); e != api.OK {
				t.Fatalf("P11: Down(%d) = %d", c, e)
			}
		}
		clientIs(t, s, c, whole, api.MaxClients, api.Calm)
	}
	n := len(whole)
	edits(t, s, 0, 0, 0, "", api.ErrLong)
	edits(t, s, 0, n, 0, "", api.ErrLong)
	edits(t, s, 0, 0, 1, "", api.ErrLong)
	edits(t, s, 0, 0, n-api.MaxText-1, "", api.ErrLong)
	edits(t, s, 0, n, 1, "", api.ErrArg)
	edits(t, s, 0, 1, n-api.MaxText, "a", api.ErrLong)
	clientIs(t, s, 0, whole, api.MaxClients, api.Calm)
	edits(t, s, 0, 1, n-api.MaxText, "", api.OK)
	clientIs(t, s, 0, "0"+whole[n-api.MaxText+1:], api.MaxClients, api.Waiting)
	wants(t, s, "up 0, down 1", api.OK)
	edits(t, s, 1, api.MaxText, 0, "a", api.ErrLong)
	edits(t, s, 1, 0, 1, "a", api.OK)
}

// TestManyParts: within the service an operation may have more than MaxParts parts.
func TestManyParts(t *testing.T) {
	s := joined(t, strings.Repeat("é", 120), 2)
	edits(t, s, 0, 0, 0, "<", api.OK)
	edits(t, s, 1, 120, 0, ">", api.OK)
	for i := range 60 {
		edits(t, s, 0, 2*i+1, 1, "0", api.OK)
		edits(t, s, 1, 2*i+1, 1, "🐚", api.OK)
	}
	wants(t, s, "up 0, up 1, down 0, down 0, down 1, down 1, up 1, up 0", api.OK)
	wants(t, s, "down 0, down 0, down 1, down 1", api.OK)
	want := "<" + strings.Repeat("0🐚", 60) + ">"
	for c := range 2 {
		clientIs(t, s, c, want, 4, api.Calm)
	}
	text, entries := s.Server()
	if text != want || len(entries) != 4 || len(entries[2].Op) <= api.MaxParts || len(entries[3].Op) <= api.MaxParts {
		t.Errorf("P12: Server() = %q, %v, want %q and entries of many parts", text, entries, want)
	}
}
