package delta

import (
	"slices"
	"strings"

	"mullion/api"
	"mullion/layout"
	"mullion/octal"
	"mullion/plan"
)

// Apply gives the state behind an event.
func Apply(s api.State, e api.Event) (api.State, api.Errno) {
	next := copyState(s)
	if !follow(&next, e) {
		return api.State{}, api.ErrApply
	}
	return next, api.OK
}

// follow changes the state as the event says; where it can't follow, it answers false.
func follow(s *api.State, e api.Event) bool {
	switch e.Kind {
	case api.EvPaneAdd, api.EvPaneClose:
		return isId(e.Pane) && !slices.Contains(panesOf(s.Windows), e.Pane)
	case api.EvWindowAdd:
		return addWindow(s, e)
	case api.EvSessionAdd:
		return addSession(s, e)
	case api.EvWindowClose, api.EvWindowRenamed, api.EvLayout, api.EvPaneChanged:
		w := find(s.Windows, windowId, e.Window)
		return w != nil && followWindow(s, w, e)
	case api.EvSessionClose, api.EvSessionRenamed, api.EvLink, api.EvUnlink, api.EvSessionWindow:
		x := find(s.Sessions, sessionId, e.Session)
		return x != nil && followSession(s, x, e)
	}
	return false
}

func addWindow(s *api.State, e api.Event) bool {
	if !isId(e.Window) || find(s.Windows, windowId, e.Window) != nil || !octal.IsName(e.Name) {
		return false
	}
	s.Windows = insert(s.Windows, windowId, api.Window{Id: e.Window, Name: strings.Clone(e.Name), Active: noPane, Last: noPane})
	return true
}

func addSession(s *api.State, e api.Event) bool {
	if !isId(e.Session) || find(s.Sessions, sessionId, e.Session) != nil || !octal.IsName(e.Name) {
		return false
	}
	s.Sessions = insert(s.Sessions, sessionId, api.Session{Id: e.Session, Name: strings.Clone(e.Name), Current: noIndex, Last: noIndex})
	return true
}

func followWindow(s *api.State, w *api.Window, e api.Event) bool {
	switch e.Kind {
	case api.EvWindowClose:
		if isLinked(s.Sessions, w.Id) {
			return false
		}
		s.Windows = remove(s.Windows, windowId, w.Id)
		return true
	case api.EvWindowRenamed:
		return rename(&w.Name, e.Name)
	case api.EvLayout:
		return lay(w, e)
	}
	return activate(w, e.Pane)
}

func followSession(s *api.State, x *api.Session, e api.Event) bool {
	switch e.Kind {
	case api.EvSessionClose:
		s.Sessions = remove(s.Sessions, sessionId, x.Id)
		return true
	case api.EvSessionRenamed:
		return rename(&x.Name, e.Name)
	case api.EvLink:
		return find(s.Windows, windowId, e.Window) != nil && link(x, api.Link{Index: e.Index, Window: e.Window})
	}
	if find(x.Links, linkIndex, e.Index) == nil {
		return false
	}
	if e.Kind == api.EvUnlink {
		x.Links = remove(x.Links, linkIndex, e.Index)
	} else {
		x.Current, x.Last = e.Index, noIndex
	}
	return true
}

func rename(name *string, to string) bool {
	if !octal.IsName(to) {
		return false
	}
	*name = strings.Clone(to)
	return true
}

func lay(w *api.Window, e api.Event) bool {
	whole, err := plan.Parse(e.Layout)
	if err != api.OK || !canShow(whole, e) {
		return false
	}
	w.Cells, w.Zoom = whole, e.Zoom
	return true
}

// canShow tells whether the event's visible plan is one of this layout: which of the panes is zoomed, it does not ask.
func canShow(whole []api.Cell, e api.Event) bool {
	if !e.Zoom {
		return e.Visible == e.Layout
	}
	visible, err := plan.Parse(e.Visible)
	if err != api.OK || len(whole) == 1 || len(visible) != 1 {
		return false
	}
	_, ok := layout.Find(whole, visible[0].Pane)
	return ok && visible[0].W == whole[0].W && visible[0].H == whole[0].H
}

func activate(w *api.Window, pane int) bool {
	if _, ok := layout.Find(w.Cells, pane); !ok {
		return false
	}
	w.Active, w.Last = pane, noPane
	return true
}

func link(x *api.Session, l api.Link) bool {
	if !isIndex(l.Index) || find(x.Links, linkIndex, l.Index) != nil {
		return false
	}
	x.Links = insert(x.Links, linkIndex, l)
	return true
}
