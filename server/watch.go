package server

import (
	"slices"
	"strconv"

	"mullion/api"
	"mullion/client"
	"mullion/exec"
	"mullion/format"
	"mullion/store"
)

// The marks of the ids that a watch may name.
const (
	markWindow = "@"
	markPane   = "%"
)

// moment is the store as a tick finds it.
type moment struct {
	store *store.Store
	state api.State
	tick  int
}

// pass lets the tick pass for a client.
func (m moment) pass(_ int, c *client.Client) {
	for _, pane := range c.Late(m.tick) {
		if _, end, found := m.store.Extent(pane); found {
			c.Pause(pane, end)
		}
	}
	for _, w := range c.Watches() {
		c.Tell(w.Name, m.said(w, c.Session()))
	}
}

// said is what a watch of a client in that session says.
func (m moment) said(w api.Watch, session int) []api.Event {
	var events []api.Event
	for _, p := range m.places(w.What, session) {
		text, _ := format.Expand(w.Format, exec.Vars(m.store, p)) // with an error the text is empty
		events = append(events, api.Event{
			Kind:    api.EvWatch,
			Name:    w.Name,
			Session: p.Session,
			Window:  p.Window,
			Index:   p.Index,
			Pane:    p.Pane,
			Text:    text,
		})
	}
	return events
}

// places are the places of a session that are watched.
func (m moment) places(what string, session int) []api.Place {
	x, found := sessionOf(m.state, session)
	if !found {
		return nil
	}
	if what == "" {
		return m.current(x)
	}
	var l []api.Place
	for _, link := range firstLinks(x) {
		w := m.window(link.Window)
		if isMeant(what, markWindow, w.Id) {
			l = append(l, place(x, link, w.Active))
		}
		for _, cell := range w.Cells {
			if cell.Kind == api.CellPane && isMeant(what, markPane, cell.Pane) {
				l = append(l, place(x, link, cell.Pane))
			}
		}
	}
	return l
}

// current is the one place that a session shows.
func (m moment) current(x api.Session) []api.Place {
	var l []api.Place
	for _, link := range x.Links {
		if link.Index == x.Current {
			l = append(l, place(x, link, m.window(link.Window).Active))
		}
	}
	return l
}

// firstLinks are a session's links without those to a window that it links at
// a lesser index too.
func firstLinks(x api.Session) []api.Link {
	var l []api.Link
	for _, link := range x.Links {
		if !slices.ContainsFunc(l, func(other api.Link) bool { return other.Window == link.Window }) {
			l = append(l, link)
		}
	}
	return l
}

func place(x api.Session, link api.Link, pane int) api.Place {
	return api.Place{Session: x.Id, Index: link.Index, Window: link.Window, Pane: pane}
}

// isMeant tells whether a watch names that id, or all of its mark.
func isMeant(what, mark string, id int) bool {
	return what == mark+"*" || what == mark+strconv.Itoa(id)
}

// window gives a window that a session of the state links: it is there.
func (m moment) window(id int) api.Window {
	at := slices.IndexFunc(m.state.Windows, func(w api.Window) bool { return w.Id == id })
	return m.state.Windows[at]
}
