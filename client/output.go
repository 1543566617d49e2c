package client

import "mullion/api"

// Output tells it a pane's bytes. What is not told leads to a pause, which is
// nothing for a pane that is no id, or of a closed client.
func (c *Client) Output(pane, tick, offset int, data string) {
	if data == "" || c.isPaused(pane) {
		return
	}
	lines, err := outputLines(pane, data)
	if err == nil {
		err = refusal(c.queue.Out(pane, tick, lines))
	}
	if err != nil {
		c.Pause(pane, offset)
	}
}

func outputLines(pane int, data string) ([]string, error) {
	var lines []string
	for data != "" {
		size := min(len(data), api.MaxOutput)
		line, err := lineOf(api.Event{Kind: api.EvOutput, Pane: pane, Text: data[:size]})
		if err != nil {
			return nil, err
		}
		lines = append(lines, line)
		data = data[size:]
	}
	return lines, nil
}

// Late are the panes whose output waits too long.
func (c *Client) Late(tick int) []int {
	if c.Closed() || c.age == 0 {
		return nil
	}
	var late []int
	for _, pane := range c.queue.Panes() {
		since, waits := c.queue.Oldest(pane)
		if waits && !c.isPaused(pane) && isBeyond(tick, since, c.age) {
			late = append(late, pane)
		}
	}
	return late
}

// isBeyond compares ahead of taking away: a tick may be any number, and what
// lies between two may be more than a number can say.
func isBeyond(tick, since, age int) bool { return tick > since && tick-since > age }

// Pause pauses a pane.
func (c *Client) Pause(pane, offset int) {
	if c.Closed() || !isId(pane) || c.isPaused(pane) {
		return
	}
	c.paused[pane] = struct{}{}
	c.Notify(api.Event{Kind: api.EvPause, Pane: pane, Offset: offset})
}

// Continue lets a pane go on.
func (c *Client) Continue(pane, offset int) {
	if c.Closed() || !c.isPaused(pane) {
		return
	}
	delete(c.paused, pane)
	c.Notify(api.Event{Kind: api.EvContinue, Pane: pane, Offset: offset})
}

func (c *Client) isPaused(pane int) bool {
	_, paused := c.paused[pane]
	return paused
}

func isId(n int) bool { return n >= 1 && n <= api.MaxNumber }
