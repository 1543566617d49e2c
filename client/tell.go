package client

import (
	"errors"

	"mullion/api"
	"mullion/octal"
	"mullion/wire"
)

// The flags of a block's guards.
const (
	flagGreeting = 0
	flagAnswer   = 1
)

const reasonBehind = "too far behind"

// Why something is not told.
var (
	errNoLine = errors.New("there is no line for it")
	errNoRoom = errors.New("the queue has no room for it")
	errClosed = errors.New("nothing comes behind the last line")
)

// refusal is what a queue's answer means for what it was given: nil, if it took it.
func refusal(answer api.Errno) error {
	switch answer {
	case api.OK:
		return nil
	case api.ErrSpare, api.ErrFull:
		return errNoRoom
	case api.ErrClosed:
		return errClosed
	}
	return errNoLine
}

// Hello tells it its greeting.
func (c *Client) Hello(tick int, l []api.Event) {
	c.tellBlock(api.Event{Kind: api.EvBegin, Tick: tick, Flag: flagGreeting}, api.EvEnd, nil)
	c.Notify(l...)
}

// Block tells it the answer to its next line. The line counts, even if its answer can't be told.
func (c *Client) Block(tick int, good bool, body []string) {
	if c.Closed() {
		return
	}
	c.count++
	last := api.EvEnd
	if !good {
		last = api.EvError
	}
	c.tellBlock(api.Event{Kind: api.EvBegin, Tick: tick, Number: c.count, Flag: flagAnswer}, last, body)
}

// tellBlock leaves nothing of a block out: a client that can't be told all of it is closed.
func (c *Client) tellBlock(begin api.Event, last int, body []string) {
	lines, err := blockLines(begin, last, body)
	if err == nil {
		err = refusal(c.queue.PutAll(lines))
	}
	if err != nil {
		c.Exit(reasonBehind)
	}
}

func blockLines(begin api.Event, last int, body []string) ([]string, error) {
	first, err := lineOf(begin)
	if err != nil {
		return nil, err
	}
	lines := make([]string, 0, len(body)+2)
	lines = append(lines, first)
	for _, text := range body {
		lines = append(lines, octal.EscapeBody(text))
	}
	end := begin
	end.Kind = last
	bottom, err := lineOf(end)
	return append(lines, bottom), err
}

func lineOf(e api.Event) (string, error) {
	line, err := wire.Encode(e)
	if err != api.OK {
		return "", errNoLine
	}
	return line, nil
}

// Notify tells it events.
func (c *Client) Notify(l ...api.Event) {
	for _, e := range l {
		err := c.tell(e)
		switch {
		case errors.Is(err, errNoRoom):
			c.Exit(reasonBehind)
		case err == nil && e.Kind == api.EvPaneClose:
			delete(c.paused, e.Pane)
		}
	}
}

// tell puts an event's line into the queue. A guard, a line of an answer or an
// exit has no line here: alone it would break the language of the wire.
func (c *Client) tell(e api.Event) error {
	line, err := lineOf(e)
	if err != nil {
		return err
	}
	if wire.Class(line) != wire.ClassTold {
		return errNoLine
	}
	return refusal(c.queue.Put(line))
}

// Exit tells it its last line.
func (c *Client) Exit(reason string) {
	line, err := lineOf(api.Event{Kind: api.EvExit, Text: reason})
	if errors.Is(err, errNoLine) {
		line, _ = lineOf(api.Event{Kind: api.EvExit})
	}
	c.queue.End(line)
}
