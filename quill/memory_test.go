package quill

import (
	"math"
	"slices"
	"strings"
	"testing"
	"unsafe"

	"quill/api"
)

// TestErrorsChangeNothing: neither what is to be seen nor what is on its way.
func TestErrorsChangeNothing(t *testing.T) {
	want := ended(busy(t))
	for i, wrong := range wrongs() {
		s := busy(t)
		before := told(s)
		if e := wrong(s); e == api.OK {
			t.Errorf("P8 to P11: wrong call %d: OK", i)
		}
		if now := told(s); now != before {
			t.Errorf("P1: wrong call %d makes %s of %s", i, now, before)
		}
		if got := ended(s); !slices.Equal(got, want) {
			t.Errorf("P1: behind wrong call %d comes %q, want %q", i, got, want)
		}
	}
}

// wrongs: calls that have an error at a busy service.
func wrongs() []func(*Service) api.Errno {
	calls := []call{
		{name: "Join", client: 0}, {name: "Join", client: 1}, {name: "Join", client: 2},
		{name: "Up", client: 0}, {name: "Up", client: 2}, {name: "Up", client: 3},
		{name: "Down", client: 2}, {name: "Down", client: 3},
		{"Edit", 3, 0, 0, "a"}, {"Edit", 3, 0, 0, ""},
	}
	for c := range 3 {
		calls = append(calls,
			call{"Edit", c, -1, 0, "a"}, call{"Edit", c, 0, -1, "a"}, call{"Edit", c, 9, 0, "a"}, call{"Edit", c, 0, 9, "a"},
			call{"Edit", c, math.MaxInt, math.MaxInt, ""}, call{"Edit", c, 1, 1, "a\xff"},
			call{"Edit", c, 1, 0, strings.Repeat("a", api.MaxText)})
	}
	for _, c := range strangers(4) {
		for _, name := range []string{"Join", "Up", "Down", "Edit"} {
			calls = append(calls, call{name: name, client: c, text: "a"})
		}
	}
	var all []func(*Service) api.Errno
	for _, k := range calls {
		all = append(all, k.ask)
	}
	return append(all, func(s *Service) api.Errno {
		_, _, _, e := s.Client(4)
		return e
	})
}

// frail is a text in memory that is overwritten later.
func frail(text string) (string, func()) {
	b := []byte(text)
	return unsafe.String(&b[0], len(b)), func() {
		for i := range b {
			b[i] = '#'
		}
	}
}

func TestTextsHandedInAreNotKept(t *testing.T) {
	first, spoil := frail("aé")
	s := joined(t, first, 2)
	spoil()
	serverIs(t, s, "aé")
	clientIs(t, s, 0, "aé", 0, api.Calm)
	for i, text := range []string{"世", "🐚", "bñ"} {
		in, spoil := frail(text)
		edits(t, s, 0, 2+i, 0, in, api.OK)
		spoil()
	}
	clientIs(t, s, 0, "aé世🐚bñ", 0, api.Buffered)
	wants(t, s, "up 0, down 0, up 0, down 0, down 1, down 1", api.OK)
	serverIs(t, s, "aé世🐚bñ", by(0, keep(2), put("世")), by(0, keep(3), put("🐚bñ")))
	for c := range 2 {
		clientIs(t, s, c, "aé世🐚bñ", 2, api.Calm)
	}
}

// overwrite writes into an answer and all its spare room.
func overwrite(l []api.Entry) {
	l = l[:cap(l)]
	for i := range l {
		overwriteOp(l[i].Op)
		l[i] = api.Entry{Client: 99, Op: []api.Part{gone(99)}}
	}
}

func overwriteOp(op []api.Part) {
	op = op[:cap(op)]
	for i := range op {
		op[i] = gone(99)
	}
}

func TestAnswersAreTheCallers(t *testing.T) {
	want := ended(busy(t))
	s := busy(t)
	_, before := s.Server()
	held := copies(before)
	_, l := s.Server()
	overwrite(l)
	if !equal(before, held) {
		t.Errorf("P1: an answer hangs on a later one: %v, want %v", before, held)
	}
	for i := range held {
		_, l := s.Server()
		overwriteOp(l[i].Op)
		for j := range held {
			if j != i && !slices.Equal(l[j].Op, held[j].Op) {
				t.Errorf("P1: the operation of entry %d hangs on that of entry %d: %v, want %v", j, i, l[j].Op, held[j].Op)
			}
		}
	}
	if got := ended(s); !slices.Equal(got, want) {
		t.Errorf("P1: what comes out hangs on what is done to answers: %q, want %q", got, want)
	}
	if !equal(before, held) {
		t.Errorf("P1: an answer hangs on what comes later: %v, want %v", before, held)
	}
}

// TestEarlyAnswersStay: entries that are taken later don't come into an answer's spare room.
func TestEarlyAnswersStay(t *testing.T) {
	s := joined(t, "ab", 1)
	var answers, held [][]api.Entry
	for range 20 {
		_, l := s.Server()
		answers, held = append(answers, l), append(held, copies(l[:cap(l)]))
		edits(t, s, 0, 1, 0, "é", api.OK)
		edits(t, s, 0, 2, 1, "", api.OK)
		edits(t, s, 0, 2, 0, "b", api.OK)
		for range 2 {
			wants(t, s, "up 0, down 0", api.OK)
		}
	}
	for i, l := range answers {
		if !equal(l[:cap(l)], held[i]) {
			t.Errorf("P1: answer %d became %v, was %v", i, l[:cap(l)], held[i])
		}
	}
}

func copies(l []api.Entry) []api.Entry {
	var out []api.Entry
	for _, e := range l {
		out = append(out, api.Entry{Client: e.Client, Op: slices.Clone(e.Op)})
	}
	return out
}

func TestAnswersAreNewTexts(t *testing.T) {
	s := joined(t, strings.Repeat("é", 20), 1)
	edits(t, s, 0, 1, 0, strings.Repeat("世", 20), api.OK)
	wants(t, s, "up 0", api.OK)
	text, l := s.Server()
	if shares(text, s.text) || shares(l[0].Op[1].Text, s.entries[0].Op[1].Text) {
		t.Error("P1: Server gives out a text that is kept")
	}
	if text, _, _, _ := s.Client(0); shares(text, s.clients[0].text) {
		t.Error("P1: Client gives out a text that is kept")
	}
}

// shares: whether one of two texts begins within the other.
func shares(a, b string) bool {
	p, q := uintptr(unsafe.Pointer(unsafe.StringData(a))), uintptr(unsafe.Pointer(unsafe.StringData(b)))
	return p < q+uintptr(len(b)) && q < p+uintptr(len(a))
}

// TestNothingIsKeptTooLong: a client that is Calm keeps no operation.
func TestNothingIsKeptTooLong(t *testing.T) {
	s := joined(t, "ab", 2)
	for c := range 2 {
		edits(t, s, c, 0, 0, "x", api.OK)
		edits(t, s, c, 0, 1, "", api.OK)
	}
	ended(s)
	for i, c := range s.clients {
		if c.state.number != api.Calm || c.sent != nil || c.buffer != nil || c.up != nil {
			t.Errorf("client %d keeps %v, %v, %v in the state %d", i, c.sent, c.buffer, c.up, c.state.number)
		}
	}
}

// TestServicesAreAlone: what is done to one service is not to be seen at another.
func TestServicesAreAlone(t *testing.T) {
	want := ended(busy(t))
	one := busy(t)
	other := joined(t, "aé世🐚", 4)
	for c := range 4 {
		edits(t, other, c, c, 1, "other", api.OK)
		edits(t, other, c, 0, 0, "!", api.OK)
	}
	ended(other)
	if got := ended(one); !slices.Equal(got, want) {
		t.Errorf("P1: beside another service: %q, want %q", got, want)
	}
	third := begun(t, "aé世🐚", 4)
	serverIs(t, third, "aé世🐚")
	for c := range 4 {
		clientIs(t, third, c, "", 0, api.Away)
	}
}
