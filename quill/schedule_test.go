package quill

import (
	"fmt"
	"math"
	"math/rand"
	"slices"
	"strings"
	"testing"

	"quill/api"
)

// call is one of Join, Edit, Up and Down, with what it is handed.
type call struct {
	name     string
	client   int
	at, gone int
	text     string
}

func (k call) ask(s *Service) api.Errno {
	switch k.name {
	case "Join":
		return s.Join(k.client)
	case "Up":
		return s.Up(k.client)
	case "Down":
		return s.Down(k.client)
	}
	return s.Edit(k.client, k.at, k.gone, k.text)
}

func (k call) askModel(m *model) api.Errno {
	switch k.name {
	case "Join":
		return m.join(k.client)
	case "Up":
		return m.upward(k.client)
	case "Down":
		return m.downward(k.client)
	}
	return m.edit(k.client, k.at, k.gone, k.text)
}

// play is a service, the model of it, and the calls that made them what they are.
type play struct {
	first string
	calls []call
	s     *Service
	m     *model
}

func played(t *testing.T, first string, clients int) *play {
	return &play{first: first, s: begun(t, first, clients), m: &model{text: []rune(first), people: make([]person, clients)}}
}

// next does one more call, and holds what comes of it against the model and P14.
func (p *play) next(t *testing.T, k call) api.Errno {
	t.Helper()
	p.calls = append(p.calls, k)
	e, want := k.ask(p.s), k.askModel(p.m)
	if e != want {
		t.Fatalf("%q, %v = %d, want %d", p.first, p.calls, e, want)
	}
	p.isAsModel(t)
	p.followsEntries(t)
	return e
}

func (p *play) isAsModel(t *testing.T) {
	t.Helper()
	if text, l := p.s.Server(); text != string(p.m.text) || !equal(l, p.m.entries()) {
		t.Fatalf("%q, %v: Server() = %q, %v, want %q, %v", p.first, p.calls, text, l, string(p.m.text), p.m.entries())
	}
	for c, x := range p.m.people {
		if text, r, st, e := p.s.Client(c); text != string(x.text) || r != x.revision || st != x.state || e != api.OK {
			t.Fatalf("%q, %v: Client(%d) = %q, %d, %d, %d, want %q, %d, %d", p.first, p.calls, c, text, r, st, e, string(x.text), x.revision, x.state)
		}
	}
}

// followsEntries: P14.
func (p *play) followsEntries(t *testing.T) {
	t.Helper()
	text, entries := p.s.Server()
	left := []string{p.first}
	for i, e := range entries {
		left = append(left, leaves([]rune(left[i]), e.Op))
	}
	if want := left[len(entries)]; text != want {
		t.Fatalf("P14: %q, %v: the server has %q, and its entries leave %q", p.first, p.calls, text, want)
	}
	for c := range len(p.m.people) {
		if text, r, st, _ := p.s.Client(c); st == api.Calm && text != left[r] {
			t.Fatalf("P14: %q, %v: client %d has %q, and %d entries leave %q", p.first, p.calls, c, text, r, left[r])
		}
	}
}

func leaves(text []rune, l []api.Part) string {
	left := ""
	for _, p := range l {
		if p.Kind == api.Keep {
			left += string(text[:p.N])
		}
		left += p.Text
		text = text[p.N:]
	}
	return left + string(text)
}

// end lets all join and all come that is on its way, in an order that which draws: P15.
func (p *play) end(t *testing.T, which func(n int) int) {
	t.Helper()
	clients := len(p.m.people)
	for c := range clients {
		p.next(t, call{name: "Join", client: c})
	}
	for {
		var ways []call
		for c, x := range p.m.people {
			if len(x.up) > 0 {
				ways = append(ways, call{name: "Up", client: c})
			}
			if len(x.down) > 0 {
				ways = append(ways, call{name: "Down", client: c})
			}
		}
		if len(ways) == 0 {
			break
		}
		p.next(t, ways[which(len(ways))])
	}
	text, entries := p.s.Server()
	for c := range clients {
		if u, e := p.s.Up(c), p.s.Down(c); u != api.ErrNone || e != api.ErrNone {
			t.Fatalf("P15: %q, %v: Up(%d) = %d, Down(%d) = %d, and nothing is on its way", p.first, p.calls, c, u, c, e)
		}
		if u, r, st, _ := p.s.Client(c); u != text || r != len(entries) || st != api.Calm {
			t.Fatalf("P15: %q, %v: Client(%d) = %q, %d, %d; the server has %q, %d", p.first, p.calls, c, u, r, st, text, len(entries))
		}
	}
}

// again is a play of the same calls.
func (p *play) again(t *testing.T) *play {
	s := begun(t, p.first, len(p.m.people))
	for _, k := range p.calls {
		k.ask(s)
	}
	return &play{p.first, slices.Clone(p.calls), s, p.m.clone()}
}

// all goes through all orders in which so many of the calls can be done; one that has an error
// changes nothing, so that nothing new comes behind it.
func all(t *testing.T, p *play, calls []call, more int) {
	if more == 0 {
		p.end(t, func(n int) int { return len(p.calls) % n })
		return
	}
	for _, k := range calls {
		if q := p.again(t); q.next(t, k) == api.OK {
			all(t, q, calls, more-1)
		}
	}
}

func TestAllOrders(t *testing.T) {
	var ways, puts, mixed []call
	for c := range 2 {
		ways = append(ways, call{name: "Up", client: c}, call{name: "Down", client: c})
		puts = append(puts, call{"Edit", c, 1, 0, []string{"x", "é"}[c]})
		mixed = append(mixed, call{"Edit", c, 0, 1, ""}, call{"Edit", c, 0, 2 - c, string(rune('X' + c))})
	}
	for _, k := range []struct {
		first string
		calls []call
		more  int
	}{
		{"ab", slices.Concat(ways, puts), 7},
		{"a世c", slices.Concat(ways, mixed), 6},
		{"", []call{{"Edit", 0, 0, 0, "é"}, {"Edit", 1, 0, 0, "🐚"}, {"Edit", 0, 0, 1, ""}, ways[0], ways[1], ways[2], ways[3]}, 6},
	} {
		p := played(t, k.first, 2)
		p.next(t, call{name: "Join", client: 0})
		p.next(t, call{name: "Join", client: 1})
		all(t, p, k.calls, k.more)
	}
	joins := []call{{name: "Join", client: 0}, {name: "Join", client: 1}, {name: "Join", client: 2}}
	all(t, played(t, "ab", 3), slices.Concat(joins, ways, puts), 6)
}

// TestDrawn: long plays of up to MaxClients clients, with wrong calls among the right ones.
func TestDrawn(t *testing.T) {
	d := rand.New(rand.NewSource(1))
	for range 2000 {
		p := played(t, drawnText(d, d.Intn(6)), 1+d.Intn(api.MaxClients))
		for range d.Intn(60) {
			p.next(t, drawnCall(d, p.m))
		}
		p.end(t, d.Intn)
	}
}

// TestDrawnLong: clients whose texts come near MaxText and beyond it.
func TestDrawnLong(t *testing.T) {
	d := rand.New(rand.NewSource(2))
	for range 100 {
		p := played(t, drawnText(d, api.MaxText-d.Intn(3)), 1+d.Intn(api.MaxClients))
		for range 40 {
			p.next(t, drawnCall(d, p.m))
		}
		p.end(t, d.Intn)
	}
}

func drawnText(d *rand.Rand, n int) string {
	var s strings.Builder
	for range n {
		s.WriteString([]string{"a", "é", "世", "🐚"}[d.Intn(4)])
	}
	return s.String()
}

func drawnCall(d *rand.Rand, m *model) call {
	c := d.Intn(len(m.people))
	n := len(m.people[c].text)
	at := d.Intn(n + 1)
	k := call{"Edit", c, at, d.Intn(min(3, n-at) + 1), drawnText(d, d.Intn(4))}
	switch d.Intn(20) {
	case 0:
		k.name = "Join"
	case 1, 2, 3, 4:
		k.name = "Up"
	case 5, 6, 7, 8:
		k.name = "Down"
	case 9:
		k.client = []int{-1, len(m.people), math.MaxInt, math.MinInt}[d.Intn(4)]
		k.name = []string{"Edit", "Join", "Up", "Down"}[d.Intn(4)]
	case 10:
		k.at = []int{-1, n, n + 1, math.MaxInt, math.MinInt}[d.Intn(5)]
		k.gone = []int{-1, n, n + 1, math.MaxInt, math.MinInt, 0}[d.Intn(6)]
	case 11:
		room := max(0, api.MaxText-n+k.gone)
		k.text = []string{"\xff", "é\x80", strings.Repeat("é", room), strings.Repeat("é", room+1)}[d.Intn(4)]
	case 12:
		k.gone = n - at
	}
	return k
}

func (k call) String() string {
	if k.name != "Edit" {
		return fmt.Sprintf("%s(%d)", k.name, k.client)
	}
	return fmt.Sprintf("Edit(%d, %d, %d, %.12q)", k.client, k.at, k.gone, k.text)
}
