package quill

import (
	"quill/api"
	"quill/chars"
	"quill/parts"
)

// client is one of those that edit. Its operations are lists that nobody writes into any more,
// so that they may stand in several places at once.
type client struct {
	text     string
	revision int
	state    state
	sent     []api.Part // as it is behind the entries that the client knows
	buffer   []api.Part
	up       *message // at most one, since the next is sent when this one is answered
}

// message is an operation on its way to the server, and the revision at which it was done.
type message struct {
	op       []api.Part
	revision int
}

func (c *client) away() bool { return c.state.number == api.Away }

// errorOf tells the first of the errors of an edit, or OK.
func (c *client) errorOf(at, gone int, text string) api.Errno {
	has, _ := chars.Count(c.text)
	put, ok := chars.Count(text)
	switch {
	case c.away():
		return api.ErrJoined
	case at < 0 || gone < 0 || gone > has-at: // at+gone may be more than an int holds
		return api.ErrArg
	case !ok:
		return api.ErrText
	case has-gone+put > api.MaxText:
		return api.ErrLong
	}
	return api.OK
}

func (c *client) edit(at, gone int, text string) {
	var w parts.Writer
	w.Keep(at)
	w.Insert(text)
	w.Delete(gone)
	op := w.Parts()
	c.text = parts.Apply(c.text, op)
	c.state.edit(c, op)
}

// send is what a Calm client does with an edit.
func (c *client) send(op []api.Part) {
	c.sent, c.up = op, &message{op: op, revision: c.revision}
	c.state = states[api.Waiting]
}

// hold is what a Waiting client does with an edit.
func (c *client) hold(op []api.Part) {
	c.buffer = op
	c.state = states[api.Buffered]
}

// gather is what a Buffered client does with an edit.
func (c *client) gather(op []api.Part) { c.buffer = parts.Compose(c.buffer, op) }

// follow is what a Calm client does with an entry.
func (c *client) follow(e []api.Part) { c.text = parts.Apply(c.text, e) }

// passSent is what a Waiting client does with an entry.
func (c *client) passSent(e []api.Part) {
	e, c.sent = parts.Transform(e, c.sent)
	c.follow(e)
}

// passBoth is what a Buffered client does with an entry.
func (c *client) passBoth(e []api.Part) {
	e, c.sent = parts.Transform(e, c.sent)
	e, c.buffer = parts.Transform(e, c.buffer)
	c.follow(e)
}

// rest is what a Waiting client does with its answer.
func (c *client) rest() {
	c.sent = nil
	c.state = states[api.Calm]
}

// sendBuffer is what a Buffered client does with its answer.
func (c *client) sendBuffer() {
	op := c.buffer
	c.buffer = nil
	c.send(op)
}
