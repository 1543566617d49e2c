package delta

import (
	"strings"

	"mullion/api"
	"mullion/layout"
	"mullion/plan"
)

// order is how the events of a difference stand behind one another: nothing is
// spoken of ahead of its own adding, and nothing goes while it is needed.
var order = [...]int{
	api.EvPaneAdd,
	api.EvWindowAdd,
	api.EvWindowRenamed,
	api.EvLayout,
	api.EvPaneChanged,
	api.EvSessionAdd,
	api.EvSessionRenamed,
	api.EvUnlink,
	api.EvLink,
	api.EvSessionWindow,
	api.EvSessionClose,
	api.EvWindowClose,
	api.EvPaneClose,
}

// report gathers events by their kinds, so that one walk can lay down several kinds.
type report struct {
	groups [api.EvBad][]api.Event
}

func (r *report) lay(events ...api.Event) {
	for _, e := range events {
		r.groups[e.Kind] = append(r.groups[e.Kind], e)
	}
}

func (r *report) inOrder() []api.Event {
	var events []api.Event
	for _, kind := range order {
		events = append(events, r.groups[kind]...)
	}
	return events
}

// Diff gives the events that lead from one state to another.
func Diff(a api.State, b api.State) ([]api.Event, api.Errno) {
	if !Valid(a) || !Valid(b) {
		return nil, api.ErrState
	}
	var r report
	walk(panesOf(a.Windows), panesOf(b.Windows), paneId, r.pane)
	walk(a.Windows, b.Windows, windowId, r.window)
	walk(a.Sessions, b.Sessions, sessionId, r.session)
	return r.inOrder(), api.OK
}

func (r *report) pane(old, now *int) {
	switch {
	case old == nil:
		r.lay(api.Event{Kind: api.EvPaneAdd, Pane: *now})
	case now == nil:
		r.lay(api.Event{Kind: api.EvPaneClose, Pane: *old})
	}
}

func (r *report) window(old, now *api.Window) {
	switch {
	case old == nil:
		r.lay(named(api.Event{Kind: api.EvWindowAdd, Window: now.Id}, now.Name), laidOut(*now), active(*now))
	case now == nil:
		r.lay(api.Event{Kind: api.EvWindowClose, Window: old.Id})
	default:
		r.sameWindow(*old, *now)
	}
}

func (r *report) sameWindow(old, now api.Window) {
	if old.Name != now.Name {
		r.lay(named(api.Event{Kind: api.EvWindowRenamed, Window: now.Id}, now.Name))
	}
	// The event holds both plans and the zoom: it differs just where one of them does.
	if e := laidOut(now); e != laidOut(old) {
		r.lay(e)
	}
	if old.Active != now.Active {
		r.lay(active(now))
	}
}

func (r *report) session(old, now *api.Session) {
	switch {
	case old == nil:
		r.lay(named(api.Event{Kind: api.EvSessionAdd, Session: now.Id}, now.Name), current(*now))
		r.links(now.Id, nil, now.Links)
	case now == nil:
		r.lay(api.Event{Kind: api.EvSessionClose, Session: old.Id})
	default:
		r.sameSession(*old, *now)
	}
}

func (r *report) sameSession(old, now api.Session) {
	if old.Name != now.Name {
		r.lay(named(api.Event{Kind: api.EvSessionRenamed, Session: now.Id}, now.Name))
	}
	r.links(now.Id, old.Links, now.Links)
	if old.Current != now.Current {
		r.lay(current(now))
	}
}

func (r *report) links(session int, old, now []api.Link) {
	walk(old, now, linkIndex, func(from, to *api.Link) {
		if from != nil && to != nil && *from == *to {
			return
		}
		if from != nil {
			r.lay(api.Event{Kind: api.EvUnlink, Session: session, Index: from.Index})
		}
		if to != nil {
			r.lay(api.Event{Kind: api.EvLink, Session: session, Index: to.Index, Window: to.Window})
		}
	})
}

// named gives an event a name of its own: an answer shares no bytes with what was handed in.
func named(e api.Event, name string) api.Event {
	e.Name = strings.Clone(name)
	return e
}

func laidOut(w api.Window) api.Event {
	whole, _ := plan.Text(w.Cells)
	visible, _ := plan.Text(shown(w))
	return api.Event{Kind: api.EvLayout, Window: w.Id, Layout: whole, Visible: visible, Zoom: w.Zoom}
}

// shown gives what is to be seen of a window: while it is zoomed, its active pane alone.
func shown(w api.Window) []api.Cell {
	if !w.Zoom {
		return w.Cells
	}
	alone, _ := layout.New(w.Cells[0].W, w.Cells[0].H, w.Active)
	return alone
}

func active(w api.Window) api.Event {
	return api.Event{Kind: api.EvPaneChanged, Window: w.Id, Pane: w.Active}
}

func current(x api.Session) api.Event {
	return api.Event{Kind: api.EvSessionWindow, Session: x.Id, Index: x.Current}
}
