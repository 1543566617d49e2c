package client

import (
	"maps"
	"slices"
	"strings"

	"mullion/api"
	"mullion/octal"
)

// watch is a subscription, and what was told of it last.
type watch struct {
	api.Watch
	said map[api.Event]struct{}
}

// Watch begins a subscription.
func (c *Client) Watch(w api.Watch) api.Errno {
	if !octal.IsWord(w.Name) {
		return api.ErrArg
	}
	if _, known := c.watches[w.Name]; !known && len(c.watches) >= api.MaxWatches {
		return api.ErrFull
	}
	if !c.Closed() {
		w = ownWatch(w)
		c.watches[w.Name] = watch{Watch: w}
	}
	return api.OK
}

// Unwatch ends one.
func (c *Client) Unwatch(name string) {
	if !c.Closed() {
		delete(c.watches, name)
	}
}

// Watches are its subscriptions.
func (c *Client) Watches() []api.Watch {
	var l []api.Watch
	for _, name := range slices.Sorted(maps.Keys(c.watches)) {
		l = append(l, ownWatch(c.watches[name].Watch))
	}
	return l
}

// Tell tells what a subscription says now.
func (c *Client) Tell(name string, l []api.Event) {
	w, known := c.watches[name]
	if c.Closed() || !known {
		return
	}
	said := make(map[api.Event]struct{}, len(l))
	for _, e := range l {
		if _, told := w.said[e]; !told {
			c.Notify(e)
		}
		said[ownEvent(e)] = struct{}{}
	}
	w.said = said
	c.watches[w.Name] = w
}

// ownWatch is a watch whose texts are nobody else's memory.
func ownWatch(w api.Watch) api.Watch {
	return api.Watch{Name: strings.Clone(w.Name), What: strings.Clone(w.What), Format: strings.Clone(w.Format)}
}

// ownEvent is an event whose texts are nobody else's memory.
func ownEvent(e api.Event) api.Event {
	e.Name, e.Text = strings.Clone(e.Name), strings.Clone(e.Text)
	e.Layout, e.Visible = strings.Clone(e.Layout), strings.Clone(e.Visible)
	return e
}
