package quill

import (
	"fmt"
	"math"
	"slices"
	"strings"
	"testing"

	"quill/api"
)

func keep(n int) api.Part { return api.Part{Kind: api.Keep, N: n} }

func gone(n int) api.Part { return api.Part{Kind: api.Delete, N: n} }

func put(s string) api.Part { return api.Part{Kind: api.Insert, Text: s} }

func by(client int, l ...api.Part) api.Entry { return api.Entry{Client: client, Op: l} }

// strangers: numbers of clients that a service of so many does not have.
func strangers(clients int) []int {
	return []int{-1, clients, clients + 1, api.MaxClients, math.MinInt, math.MaxInt, -1 << 32, 1 << 32}
}

// badTexts: each has bytes that are no character.
func badTexts() []string {
	return []string{"\xff", "\x80", "a\xc3", "\xc3a", "\xe4\xb8", "\xf0\x9f\x90", "\ufffd\xff", "\xc0\x80", "\xed\xa0\x80", "\xf4\x90\x80\x80", "世\xe4"}
}

func begun(t *testing.T, text string, clients int) *Service {
	t.Helper()
	s, e := New(text, clients)
	if s == nil || e != api.OK {
		t.Fatalf("P7: New(%.20q, %d) = %v, %d", text, clients, s, e)
	}
	return s
}

// joined is a service all of whose clients have joined.
func joined(t *testing.T, text string, clients int) *Service {
	t.Helper()
	s := begun(t, text, clients)
	for c := range clients {
		wants(t, s, fmt.Sprint("join ", c), api.OK)
	}
	return s
}

// wants does calls that are to give one answer: "join 0", "up 0" or "down 0", several parted by commas.
func wants(t *testing.T, s *Service, calls string, want api.Errno) {
	t.Helper()
	for _, one := range strings.Split(calls, ", ") {
		var name string
		var client int
		if n, err := fmt.Sscan(one, &name, &client); n != 2 {
			t.Fatalf("%q: %v", one, err)
		}
		do := map[string]func(int) api.Errno{"join": s.Join, "up": s.Up, "down": s.Down}[name]
		if e := do(client); e != want {
			t.Errorf("P8, P10, P11: %s: %d, want %d", one, e, want)
		}
	}
}

func edits(t *testing.T, s *Service, client, at, gone int, text string, want api.Errno) {
	t.Helper()
	if e := s.Edit(client, at, gone, text); e != want {
		t.Errorf("P9: Edit(%d, %d, %d, %.20q) = %d, want %d", client, at, gone, text, e, want)
	}
}

func clientIs(t *testing.T, s *Service, client int, text string, revision, state int) {
	t.Helper()
	if u, r, st, e := s.Client(client); u != text || r != revision || st != state || e != api.OK {
		t.Errorf("P12: Client(%d) = %q, %d, %d, %d, want %q, %d, %d, 0", client, u, r, st, e, text, revision, state)
	}
}

func serverIs(t *testing.T, s *Service, text string, entries ...api.Entry) {
	t.Helper()
	if u, l := s.Server(); u != text || !equal(l, entries) {
		t.Errorf("P12: Server() = %q, %v, want %q, %v", u, l, text, entries)
	}
}

func equal(a, b []api.Entry) bool {
	return slices.EqualFunc(a, b, func(x, y api.Entry) bool { return x.Client == y.Client && slices.Equal(x.Op, y.Op) })
}

// told is all that a service tells of itself.
func told(s *Service) string {
	u, l := s.Server()
	out := fmt.Sprintf("%q %v", u, l)
	for c := range len(s.clients) {
		u, r, st, _ := s.Client(c)
		out += fmt.Sprintf("; %q %d %d", u, r, st)
	}
	return out
}

// ended lets all come that is on its way, and gives what the service told meanwhile: so it
// shows what was on its way too. (Of a service that never comes to an end it shows much.)
func ended(s *Service) []string {
	all := []string{told(s)}
	for before := 0; before < len(all) && len(all) < 200; {
		before = len(all)
		for c := range len(s.clients) {
			for _, comes := range []func(int) api.Errno{s.Down, s.Up} {
				if comes(c) == api.OK {
					all = append(all, told(s))
				}
			}
		}
	}
	return all
}

// busy is a service in which clients are in all states, and messages on their way both ways.
func busy(t *testing.T) *Service {
	t.Helper()
	s := begun(t, "aé世🐚", 4)
	wants(t, s, "join 0, join 1, join 2", api.OK)
	edits(t, s, 0, 1, 1, "X", api.OK)
	edits(t, s, 1, 2, 0, "Ωж", api.OK)
	edits(t, s, 2, 4, 0, "ñ", api.OK)
	wants(t, s, "up 0, up 2, down 2, down 2", api.OK)
	edits(t, s, 0, 4, 0, "!", api.OK)
	edits(t, s, 0, 0, 2, "", api.OK)
	for c, state := range []int{api.Buffered, api.Waiting, api.Calm, api.Away} {
		if _, _, st, _ := s.Client(c); st != state {
			t.Fatalf("P12: client %d is in the state %d, want %d", c, st, state)
		}
	}
	return s
}
