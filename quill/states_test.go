package quill

import (
	"os"
	"reflect"
	"testing"

	"quill/api"
)

// code tells functions from one another, which Go can't by ==.
func code(f any) uintptr { return reflect.ValueOf(f).Pointer() }

// codes is the table as it can be compared.
func codes() [len(states)][3]uintptr {
	var all [len(states)][3]uintptr
	for i, st := range states {
		all[i] = [3]uintptr{code(st.edit), code(st.entry), code(st.answer)}
	}
	return all
}

// filled is the table as init filled it, ahead of all tests.
var filled [len(states)][3]uintptr

func TestMain(m *testing.M) {
	filled = codes()
	os.Exit(m.Run())
}

// TestStates: each state stands at its number, and has a function for each thing that may happen.
func TestStates(t *testing.T) {
	numbers := []int{api.Away, api.Calm, api.Waiting, api.Buffered}
	if len(states) != len(numbers) {
		t.Fatalf("there are %d states", len(states))
	}
	for _, n := range numbers {
		st := states[n]
		if st.number != n || st.edit == nil || st.entry == nil || st.answer == nil {
			t.Errorf("the state %d has the number %d, or a function is missing", n, st.number)
		}
	}
}

// TestStatesAreMethods: what a client that has joined does are its own methods, but for an answer while it is Calm.
func TestStatesAreMethods(t *testing.T) {
	for _, k := range []struct {
		state  int
		what   string
		is     any
		method any
	}{
		{api.Calm, "an edit", states[api.Calm].edit, (*client).send},
		{api.Calm, "an entry", states[api.Calm].entry, (*client).follow},
		{api.Waiting, "an edit", states[api.Waiting].edit, (*client).hold},
		{api.Waiting, "an entry", states[api.Waiting].entry, (*client).passSent},
		{api.Waiting, "an answer", states[api.Waiting].answer, (*client).rest},
		{api.Buffered, "an edit", states[api.Buffered].edit, (*client).gather},
		{api.Buffered, "an entry", states[api.Buffered].entry, (*client).passBoth},
		{api.Buffered, "an answer", states[api.Buffered].answer, (*client).sendBuffer},
	} {
		if code(k.is) != code(k.method) {
			t.Errorf("in the state %d the function for %s is not the client's method", k.state, k.what)
		}
	}
}

// TestStatesStay: a service leaves the table as init filled it, since all services read it.
func TestStatesStay(t *testing.T) {
	for _, wrong := range wrongs() {
		s := busy(t)
		wrong(s)
		wants(t, s, "join 3", api.OK)
		ended(s)
	}
	if now := codes(); now != filled {
		t.Errorf("P1: services made %x of the states %x", now, filled)
	}
	for i, st := range states {
		if st.number != i {
			t.Errorf("P1: services made %d of the number of the state %d", st.number, i)
		}
	}
}

// TestClientsHaveStatesOfTheTable: what a client does is what the table says of its state.
func TestClientsHaveStatesOfTheTable(t *testing.T) {
	s := busy(t)
	for i, c := range s.clients {
		row := states[c.state.number]
		if code(c.state.edit) != code(row.edit) || code(c.state.entry) != code(row.entry) || code(c.state.answer) != code(row.answer) {
			t.Errorf("client %d does not do what the table says of the state %d", i, c.state.number)
		}
	}
}
