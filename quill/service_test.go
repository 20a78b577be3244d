package quill

import (
	"math"
	"strings"
	"testing"

	"quill/api"
)

// TestDocumentsExample: the service at the end of the document, call by call.
func TestDocumentsExample(t *testing.T) {
	s := joined(t, "ab", 2)
	edits(t, s, 0, 1, 0, "X", api.OK)
	clientIs(t, s, 0, "aXb", 0, api.Waiting)
	edits(t, s, 1, 1, 1, "Y", api.OK)
	clientIs(t, s, 1, "aY", 0, api.Waiting)
	edits(t, s, 0, 3, 0, "!", api.OK)
	clientIs(t, s, 0, "aXb!", 0, api.Buffered)
	serverIs(t, s, "ab")
	wants(t, s, "up 1", api.OK)
	first, second, third := by(1, keep(1), put("Y"), gone(1)), by(0, keep(2), put("X")), by(0, keep(3), put("!"))
	serverIs(t, s, "aY", first)
	wants(t, s, "up 0", api.OK)
	serverIs(t, s, "aYX", first, second)
	wants(t, s, "down 0", api.OK)
	clientIs(t, s, 0, "aYX!", 1, api.Buffered)
	wants(t, s, "up 0", api.ErrNone)
	wants(t, s, "down 0", api.OK)
	clientIs(t, s, 0, "aYX!", 2, api.Waiting)
	wants(t, s, "down 0", api.ErrNone)
	wants(t, s, "down 1", api.OK)
	clientIs(t, s, 1, "aY", 1, api.Calm)
	wants(t, s, "down 1", api.OK)
	clientIs(t, s, 1, "aYX", 2, api.Calm)
	wants(t, s, "up 0", api.OK)
	serverIs(t, s, "aYX!", first, second, third)
	wants(t, s, "down 0, down 1", api.OK)
	clientIs(t, s, 0, "aYX!", 3, api.Calm)
	clientIs(t, s, 1, "aYX!", 3, api.Calm)
	wants(t, s, "up 0, up 1, down 0, down 1", api.ErrNone)
}

func TestNew(t *testing.T) {
	for _, text := range []string{"", "ab", "aé世🐚", "\ufffd", "\x00", strings.Repeat("🐚", api.MaxText)} {
		for clients := 1; clients <= api.MaxClients; clients++ {
			s := begun(t, text, clients)
			serverIs(t, s, text)
			for c := range clients {
				clientIs(t, s, c, "", 0, api.Away)
			}
			if _, _, _, e := s.Client(clients); e != api.ErrArg {
				t.Errorf("P7: there is a client %d of %d", clients, clients)
			}
		}
	}
}

func TestNewErrors(t *testing.T) {
	long := strings.Repeat("é", api.MaxText)
	for _, clients := range []int{0, -1, api.MaxClients + 1, math.MinInt, math.MaxInt, 1 << 32, 1<<32 + 1} {
		for _, text := range []string{"", "ab", "\xff", long + "a", long + "a\xff"} {
			refused(t, text, clients, api.ErrArg)
		}
	}
	for _, bad := range badTexts() {
		refused(t, bad, 1, api.ErrText)
		refused(t, "a"+bad, api.MaxClients, api.ErrText)
		refused(t, long+bad, 2, api.ErrText)
		refused(t, long+"abc"+bad, 2, api.ErrText)
	}
	refused(t, long+"a", 1, api.ErrLong)
	refused(t, long+"🐚", api.MaxClients, api.ErrLong)
	refused(t, long+long, 3, api.ErrLong)
}

func refused(t *testing.T, text string, clients int, want api.Errno) {
	t.Helper()
	if s, e := New(text, clients); s != nil || e != want {
		t.Errorf("P7: New(%.20q, %d) = %v, %d, want nil, %d", text, clients, s != nil, e, want)
	}
}

func TestStrangers(t *testing.T) {
	for clients := 1; clients <= api.MaxClients; clients++ {
		s := joined(t, "aé", clients)
		edits(t, s, 0, 1, 0, "世", api.OK)
		was := told(s)
		for _, c := range strangers(clients) {
			if u, r, st, e := s.Client(c); u != "" || r != 0 || st != 0 || e != api.ErrArg {
				t.Errorf("P12: Client(%d) of %d = %q, %d, %d, %d", c, clients, u, r, st, e)
			}
			for _, e := range []api.Errno{s.Join(c), s.Up(c), s.Down(c), s.Edit(c, 0, 0, "a"), s.Edit(c, 0, 0, ""), s.Edit(c, -1, 9, "\xff")} {
				if e != api.ErrArg {
					t.Errorf("P8 to P11: client %d of %d: %d", c, clients, e)
				}
			}
		}
		if now := told(s); now != was {
			t.Errorf("P1: errors made %s of %s", now, was)
		}
	}
}

func TestJoin(t *testing.T) {
	s := begun(t, "aé", 3)
	wants(t, s, "join 1", api.OK)
	clientIs(t, s, 0, "", 0, api.Away)
	clientIs(t, s, 1, "aé", 0, api.Calm)
	clientIs(t, s, 2, "", 0, api.Away)
	edits(t, s, 1, 2, 0, "世", api.OK)
	wants(t, s, "join 2", api.OK)
	clientIs(t, s, 2, "aé", 0, api.Calm)
	wants(t, s, "up 1", api.OK)
	wants(t, s, "join 0", api.OK)
	clientIs(t, s, 0, "aé世", 1, api.Calm)
	wants(t, s, "down 0", api.ErrNone)
	wants(t, s, "down 2", api.OK)
	clientIs(t, s, 2, "aé世", 1, api.Calm)
}

func TestJoinOnce(t *testing.T) {
	s := busy(t)
	was := told(s)
	wants(t, s, "join 0, join 1, join 2", api.ErrJoined)
	if now := told(s); now != was {
		t.Errorf("P8: ErrJoined made %s of %s", now, was)
	}
	wants(t, s, "join 3", api.OK)
	wants(t, s, "join 3", api.ErrJoined)
}

// TestAwayWhileEntriesAreTaken: nothing is sent to a client that is Away, not even later.
func TestAwayWhileEntriesAreTaken(t *testing.T) {
	s := begun(t, "ab", 2)
	wants(t, s, "join 0", api.OK)
	for i, text := range []string{"1", "2", "3"} {
		edits(t, s, 0, i, 0, text, api.OK)
		wants(t, s, "up 0, down 0", api.OK)
		wants(t, s, "down 1, up 1", api.ErrNone)
		clientIs(t, s, 1, "", 0, api.Away)
	}
	wants(t, s, "join 1", api.OK)
	clientIs(t, s, 1, "123ab", 3, api.Calm)
	wants(t, s, "down 1", api.ErrNone)
	edits(t, s, 1, 5, 0, "!", api.OK)
	edits(t, s, 0, 0, 5, "", api.OK)
	wants(t, s, "up 0, up 1, down 0, down 0, down 1, down 1", api.OK)
	clientIs(t, s, 0, "!", 5, api.Calm)
	clientIs(t, s, 1, "!", 5, api.Calm)
}

func TestUpAndDownOfNothing(t *testing.T) {
	s := begun(t, "a", 2)
	wants(t, s, "up 0, down 0, up 1, down 1", api.ErrNone)
	wants(t, s, "join 0", api.OK)
	wants(t, s, "up 0, down 0, up 1, down 1", api.ErrNone)
	edits(t, s, 0, 0, 0, "b", api.OK)
	wants(t, s, "down 0, up 1, down 1", api.ErrNone)
	wants(t, s, "up 0", api.OK)
	wants(t, s, "up 0, up 1, down 1", api.ErrNone)
	wants(t, s, "down 0", api.OK)
	wants(t, s, "up 0, down 0, up 1, down 1", api.ErrNone)
	clientIs(t, s, 0, "ba", 1, api.Calm)
	clientIs(t, s, 1, "", 0, api.Away)
	serverIs(t, s, "ba", by(0, put("b")))
}

// TestTies: what was taken earlier stands first, whoever did it and whoever did it first.
func TestTies(t *testing.T) {
	for _, k := range []struct{ order, want string }{
		{"up 0, up 1, up 2", "aé0世1🐚2b"},
		{"up 2, up 1, up 0", "a🐚2世1é0b"},
		{"up 1, up 0, up 2", "a世1é0🐚2b"},
	} {
		s := joined(t, "ab", 3)
		edits(t, s, 0, 1, 0, "é0", api.OK)
		edits(t, s, 1, 1, 0, "世1", api.OK)
		edits(t, s, 2, 1, 0, "🐚2", api.OK)
		wants(t, s, k.order, api.OK)
		for range 3 {
			wants(t, s, "down 0, down 1, down 2", api.OK)
		}
		for c := range 3 {
			clientIs(t, s, c, k.want, 3, api.Calm)
		}
	}
}

// TestTieWithBuffer: an entry stands ahead of what the client has sent and of what it has buffered.
func TestTieWithBuffer(t *testing.T) {
	s := joined(t, "", 2)
	edits(t, s, 0, 0, 0, "s", api.OK)
	edits(t, s, 0, 1, 0, "b", api.OK)
	edits(t, s, 1, 0, 0, "e", api.OK)
	wants(t, s, "up 1, down 0", api.OK)
	clientIs(t, s, 0, "esb", 1, api.Buffered)
	edits(t, s, 0, 0, 0, "B", api.OK)
	clientIs(t, s, 0, "Besb", 1, api.Buffered)
	wants(t, s, "up 0", api.OK)
	serverIs(t, s, "es", by(1, put("e")), by(0, keep(1), put("s")))
	wants(t, s, "down 0, up 0", api.OK)
	serverIs(t, s, "Besb", by(1, put("e")), by(0, keep(1), put("s")), by(0, put("B"), keep(2), put("b")))
}

// TestManyOnTheirWay: several messages stand behind one another on the way to a client, and one
// on the way to the server is transformed by all that was taken since.
func TestManyOnTheirWay(t *testing.T) {
	s := joined(t, "abc", 3)
	edits(t, s, 2, 3, 0, "🐚", api.OK)
	edits(t, s, 2, 0, 1, "", api.OK)
	for i, text := range []string{"1", "2", "3"} {
		edits(t, s, 0, i, 0, text, api.OK)
		wants(t, s, "up 0, down 0", api.OK)
	}
	edits(t, s, 1, 1, 2, "é", api.OK)
	wants(t, s, "up 2, up 1", api.OK)
	entries := []api.Entry{by(0, put("1")), by(0, keep(1), put("2")), by(0, keep(2), put("3")), by(2, keep(6), put("🐚")), by(1, keep(4), put("é"), gone(2))}
	serverIs(t, s, "123aé🐚", entries...)
	for i, text := range []string{"1aé", "12aé", "123aé", "123aé🐚", "123aé🐚"} {
		wants(t, s, "down 1", api.OK)
		state := api.Waiting
		if i == 4 {
			state = api.Calm
		}
		clientIs(t, s, 1, text, i+1, state)
	}
	wants(t, s, "down 1", api.ErrNone)
	for i, text := range []string{"1bc🐚", "12bc🐚", "123bc🐚", "123bc🐚", "123é🐚"} {
		wants(t, s, "down 2", api.OK)
		state := api.Buffered
		if i >= 3 {
			state = api.Waiting
		}
		clientIs(t, s, 2, text, i+1, state)
	}
	wants(t, s, "up 2", api.OK)
	serverIs(t, s, "123é🐚", append(entries, by(2, keep(3), gone(1)))...)
}

// TestBufferThatDoesNothing: it is sent all the same, and is an entry.
func TestBufferThatDoesNothing(t *testing.T) {
	s := joined(t, "aé", 2)
	edits(t, s, 0, 2, 0, "世", api.OK)
	edits(t, s, 0, 1, 0, "🐚", api.OK)
	edits(t, s, 0, 1, 1, "", api.OK)
	clientIs(t, s, 0, "aé世", 0, api.Buffered)
	wants(t, s, "up 0, down 0", api.OK)
	clientIs(t, s, 0, "aé世", 1, api.Waiting)
	wants(t, s, "up 0", api.OK)
	serverIs(t, s, "aé世", by(0, keep(2), put("世")), by(0))
	clientIs(t, s, 0, "aé世", 1, api.Waiting)
	wants(t, s, "down 0", api.OK)
	clientIs(t, s, 0, "aé世", 2, api.Calm)
	wants(t, s, "down 1, down 1", api.OK)
	clientIs(t, s, 1, "aé世", 2, api.Calm)
	wants(t, s, "up 0, down 0, up 1, down 1", api.ErrNone)
}

// TestNothingLeftToDo: an operation whose characters others let go is sent and taken all the same.
func TestNothingLeftToDo(t *testing.T) {
	s := joined(t, "ab", 2)
	edits(t, s, 0, 0, 1, "", api.OK)
	edits(t, s, 0, 0, 1, "", api.OK)
	edits(t, s, 1, 0, 2, "", api.OK)
	wants(t, s, "up 1, up 0, down 0, down 0, up 0, down 0", api.OK)
	serverIs(t, s, "", by(1, gone(2)), by(0), by(0))
	clientIs(t, s, 0, "", 3, api.Calm)
	wants(t, s, "down 1, down 1, down 1", api.OK)
	clientIs(t, s, 1, "", 3, api.Calm)
}
