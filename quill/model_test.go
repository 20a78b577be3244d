package quill

import (
	"slices"

	"quill/api"
)

// The model holds an operation as what it leaves of a text: characters that stay, by their
// places, and characters that are put in. That says all: what goes is what does not stay, and
// by the normal form something stands in the gap right behind the last character that stays ahead of it.

const isPut = -1

type item struct {
	from int
	r    rune
}

type change struct {
	length int
	left   []item
}

func changeOf(length, at, gone int, text string) change {
	m := change{length: length}
	for i := range at {
		m.left = append(m.left, item{from: i})
	}
	for _, r := range text {
		m.left = append(m.left, item{isPut, r})
	}
	for i := at + gone; i < length; i++ {
		m.left = append(m.left, item{from: i})
	}
	return m
}

func (m change) apply(text []rune) []rune {
	var out []rune
	for _, x := range m.left {
		if x.from != isPut {
			x.r = text[x.from]
		}
		out = append(out, x.r)
	}
	return out
}

func (m change) then(next change) change {
	out := change{length: m.length}
	for _, x := range next.left {
		if x.from != isPut {
			x = m.left[x.from]
		}
		out.left = append(out.left, x)
	}
	return out
}

// gaps tells where, in what the operation leaves, that stands which it puts in in each gap, and
// where each character stands (or isPut, if it goes).
func (m change) gaps() ([][]int, []int) {
	puts, stays := make([][]int, m.length+1), slices.Repeat([]int{isPut}, m.length)
	gap := 0
	for i, x := range m.left {
		if x.from == isPut {
			puts[gap] = append(puts[gap], i)
		} else {
			gap, stays[x.from] = x.from+1, i
		}
	}
	return puts, stays
}

// behind gives two operations as they are each behind the other; what the first one puts in stands first.
func behind(a, b change) (change, change) {
	putsA, staysA := a.gaps()
	putsB, staysB := b.gaps()
	first, second := change{length: len(b.left)}, change{length: len(a.left)}
	for gap := range a.length + 1 {
		for _, i := range putsA[gap] {
			first.left, second.left = append(first.left, a.left[i]), append(second.left, item{from: i})
		}
		for _, i := range putsB[gap] {
			first.left, second.left = append(first.left, item{from: i}), append(second.left, b.left[i])
		}
		if gap < a.length && staysA[gap] != isPut && staysB[gap] != isPut {
			first.left, second.left = append(first.left, item{from: staysB[gap]}), append(second.left, item{from: staysA[gap]})
		}
	}
	return first, second
}

func (m change) parts() []api.Part {
	var l []api.Part
	puts, stays := m.gaps()
	kept, gone := 0, 0
	for gap := range m.length + 1 {
		text := ""
		for _, i := range puts[gap] {
			text += string(m.left[i].r)
		}
		goes := gap < m.length && stays[gap] == isPut
		if gone > 0 && !goes {
			l, gone = append(l, api.Part{Kind: api.Delete, N: gone}), 0
		}
		if kept > 0 && (text != "" || goes) {
			l, kept = append(l, api.Part{Kind: api.Keep, N: kept}), 0
		}
		if text != "" {
			l = append(l, api.Part{Kind: api.Insert, Text: text})
		}
		if goes {
			gone++
		} else {
			kept++
		}
	}
	return l
}

// letter is a message: an operation and the revision at which it was done, or an answer.
type letter struct {
	op       change
	revision int
	answer   bool
}

type person struct {
	text            []rune
	revision, state int
	sent, buffer    change
	up, down        []letter
}

type record struct {
	client int
	op     change
}

// model is a service that keeps all messages in lists and is asked in the document's words.
type model struct {
	text    []rune
	records []record
	people  []person
}

func (m *model) join(c int) api.Errno {
	if c < 0 || c >= len(m.people) {
		return api.ErrArg
	}
	if m.people[c].state != api.Away {
		return api.ErrJoined
	}
	m.people[c] = person{text: m.text, revision: len(m.records), state: api.Calm}
	return api.OK
}

func (m *model) edit(c, at, gone int, text string) api.Errno {
	if c < 0 || c >= len(m.people) {
		return api.ErrArg
	}
	p := &m.people[c]
	n := len(p.text)
	switch {
	case p.state == api.Away:
		return api.ErrJoined
	case at < 0 || gone < 0 || uint(at)+uint(gone) > uint(n):
		return api.ErrArg
	case string([]rune(text)) != text:
		return api.ErrText
	case n-gone+len([]rune(text)) > api.MaxText:
		return api.ErrLong
	case gone == 0 && text == "":
		return api.OK
	}
	op := changeOf(n, at, gone, text)
	p.text = op.apply(p.text)
	switch p.state {
	case api.Calm:
		p.sent, p.state = op, api.Waiting
		p.up = append(p.up, letter{op: op, revision: p.revision})
	case api.Waiting:
		p.buffer, p.state = op, api.Buffered
	case api.Buffered:
		p.buffer = p.buffer.then(op)
	}
	return api.OK
}

func (m *model) upward(c int) api.Errno {
	if c < 0 || c >= len(m.people) {
		return api.ErrArg
	}
	p := &m.people[c]
	if len(p.up) == 0 {
		return api.ErrNone
	}
	first := p.up[0]
	p.up = slices.Clone(p.up[1:])
	op := first.op
	for _, r := range m.records[first.revision:] {
		_, op = behind(r.op, op)
	}
	m.text = op.apply(m.text)
	m.records = append(slices.Clone(m.records), record{c, op})
	for i := range m.people {
		if m.people[i].state != api.Away {
			m.people[i].down = append(slices.Clone(m.people[i].down), letter{op: op, answer: i == c})
		}
	}
	return api.OK
}

func (m *model) downward(c int) api.Errno {
	if c < 0 || c >= len(m.people) {
		return api.ErrArg
	}
	p := &m.people[c]
	if len(p.down) == 0 {
		return api.ErrNone
	}
	first := p.down[0]
	p.down = p.down[1:]
	p.revision++
	switch {
	case first.answer && p.state == api.Waiting:
		p.state = api.Calm
	case first.answer:
		p.sent, p.state = p.buffer, api.Waiting
		p.up = append(p.up, letter{op: p.buffer, revision: p.revision})
	default:
		e := first.op
		if p.state != api.Calm {
			e, p.sent = behind(e, p.sent)
		}
		if p.state == api.Buffered {
			e, p.buffer = behind(e, p.buffer)
		}
		p.text = e.apply(p.text)
	}
	return api.OK
}

func (m *model) entries() []api.Entry {
	var l []api.Entry
	for _, r := range m.records {
		l = append(l, api.Entry{Client: r.client, Op: r.op.parts()})
	}
	return l
}

func (m *model) clone() *model {
	return &model{m.text, m.records, slices.Clone(m.people)}
}
