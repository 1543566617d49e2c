package mirror

import (
	"mullion/api"
	"mullion/delta"
	"mullion/wire"
)

// block is a block that has begun.
type block struct {
	guard
	body []string
}

// take lets a line have its effect; false: it can't follow here, and has none.
func (m *Mirror) take(line string) bool {
	part := partOf(wire.Decode(line))
	switch {
	case m.block != nil:
		return m.takeInside(part)
	case m.ended:
		return false
	}
	return m.takeOutside(part)
}

// takeInside takes a line of a block: one of its body, or its end.
func (m *Mirror) takeInside(part any) bool {
	if text, ok := part.(body); ok {
		m.block.body = append(m.block.body, string(text))
		return true
	}
	last, ok := part.(end)
	if !ok || last.guard != m.block.guard {
		return false
	}
	m.reply(last)
	return true
}

func (m *Mirror) reply(last end) {
	m.replies = append(m.replies, api.Reply{
		Tick:   last.tick,
		Number: last.number,
		Flag:   last.flag,
		Good:   last.good,
		Body:   m.block.body,
	})
	m.block = nil
}

// takeOutside takes a line that stands in no block.
func (m *Mirror) takeOutside(part any) bool {
	switch x := part.(type) {
	case begin:
		m.block = &block{guard: guard(x)}
	case added:
		return m.addPane(place(x))
	case closed:
		return m.closePane(api.Event(x))
	case change:
		return m.change(api.Event(x))
	case output:
		return m.hear(x)
	case pause:
		return m.turn(place(x), true)
	case resume:
		return m.turn(place(x), false)
	case visit:
		m.session = int(x)
	case watched:
		m.watched = append(m.watched, api.Event(x))
	case message:
		m.messages = append(m.messages, string(x))
	case exit:
		m.ended, m.reason = true, string(x)
	default:
		return false
	}
	return true
}

func (m *Mirror) change(e api.Event) bool {
	next, err := delta.Apply(m.state, e)
	if err != api.OK {
		return false
	}
	m.state = next
	return true
}
