package parts

import (
	"math"

	"quill/api"
	"quill/chars"
)

// piece is a part or what was cut of one; an Insert's tells its number of characters too.
type piece struct {
	kind, n int
	text    string
}

// cursor reads an operation, from the text's beginning on, and cuts its parts where it must.
// It stands at a piece: what is not read yet of a part.
type cursor struct {
	piece
	behind []api.Part
	ended  bool
}

func read(op []api.Part) cursor {
	c := cursor{behind: op}
	c.next()
	return c
}

// more tells whether there are parts to read. Behind them the cursor goes on nevertheless, since
// another operation may have more: what is there stays, a Keep longer than any text.
func (c *cursor) more() bool { return !c.ended }

func (c *cursor) next() {
	if len(c.behind) == 0 {
		c.piece, c.ended = piece{kind: api.Keep, n: math.MaxInt}, true
		return
	}
	p := c.behind[0]
	c.behind = c.behind[1:]
	c.piece = piece{kind: p.Kind, n: p.N, text: p.Text}
	if p.Kind == api.Insert {
		// It was held to be all characters when the operation came in.
		c.n, _ = chars.Count(p.Text)
	}
}

// whole reads all of the piece at which the cursor stands.
func (c *cursor) whole() piece {
	p := c.piece
	c.next()
	return p
}

// take reads the first n characters of the piece at which the cursor stands.
func (c *cursor) take(n int) piece {
	if n >= c.n {
		return c.whole()
	}
	p := piece{kind: c.kind, n: n}
	p.text, c.text = chars.Cut(c.text, n)
	c.n -= n
	return p
}

// pair reads two operations at once: the first as a cursor does, since it is one, and the second beside it.
type pair struct {
	cursor
	second cursor
}

func readBoth(a, b []api.Part) pair { return pair{cursor: read(a), second: read(b)} }

// either tells whether there are parts of one of the two to read.
func (p *pair) either() bool { return p.more() || p.second.more() }

// step reads as many characters of both as the shorter of the two pieces has.
func (p *pair) step() (piece, piece) {
	n := min(p.n, p.second.n)
	return p.take(n), p.second.take(n)
}
