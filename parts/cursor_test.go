package parts

import (
	"testing"

	"quill/api"
)

func TestCursorCuts(t *testing.T) {
	c := read(op(keep(3), put("aé世🐚"), gone(2)))
	for i, k := range []struct {
		n    int
		want piece
		more bool
	}{
		{2, piece{kind: api.Keep, n: 2}, true},
		{1, piece{kind: api.Keep, n: 1}, true},
		{1, piece{kind: api.Insert, n: 1, text: "a"}, true},
		{2, piece{kind: api.Insert, n: 2, text: "é世"}, true},
		{1, piece{kind: api.Insert, n: 1, text: "🐚"}, true},
		{0, piece{kind: api.Delete}, true},
		{2, piece{kind: api.Delete, n: 2}, false},
		// what is behind the last part stays, and never ends
		{5, piece{kind: api.Keep, n: 5}, false},
		{api.MaxPos, piece{kind: api.Keep, n: api.MaxPos}, false},
	} {
		if p := c.take(k.n); p != k.want || c.more() != k.more {
			t.Errorf("%d: take(%d) = %v, %v, want %v, %v", i, k.n, p, c.more(), k.want, k.more)
		}
	}
}

func TestCursorGivesWholePieces(t *testing.T) {
	c := read(op(put("é世"), keep(2)))
	c.take(1)
	if p := c.whole(); p != (piece{kind: api.Insert, n: 1, text: "世"}) || !c.more() {
		t.Errorf("whole = %v, %v", p, c.more())
	}
	if p := c.whole(); p != (piece{kind: api.Keep, n: 2}) || c.more() {
		t.Errorf("whole = %v, %v", p, c.more())
	}
	if c := read(nil); c.more() {
		t.Error("there is something to read of nothing")
	}
}

func TestPairSteps(t *testing.T) {
	p := readBoth(op(keep(3), gone(1)), op(gone(1)))
	for i, k := range []struct{ x, y piece }{
		{piece{kind: api.Keep, n: 1}, piece{kind: api.Delete, n: 1}},
		{piece{kind: api.Keep, n: 2}, piece{kind: api.Keep, n: 2}},
		{piece{kind: api.Delete, n: 1}, piece{kind: api.Keep, n: 1}},
	} {
		if !p.either() {
			t.Errorf("%d: there is nothing to read", i)
		}
		if x, y := p.step(); x != k.x || y != k.y {
			t.Errorf("%d: step = %v, %v, want %v, %v", i, x, y, k.x, k.y)
		}
	}
	if p.either() {
		t.Error("there is more to read")
	}
}
