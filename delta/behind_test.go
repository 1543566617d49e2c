package delta

import (
	"mullion/api"
	"mullion/layout"
	"mullion/octal"
	"mullion/plan"
)

// behind is the table of P8.3 once more, for states of all kinds: each row says what must be and what it does.
func behind(s api.State, e api.Event) (api.State, bool) {
	n := twin(s)
	w, x := firstWindow(n, e.Window), firstSession(n, e.Session)
	switch e.Kind {
	case api.EvPaneAdd, api.EvPaneClose:
		return n, inRange(e.Pane) && !standsSomewhere(n, e.Pane)
	case api.EvWindowAdd:
		n.Windows = windowsWith(n.Windows, api.Window{Id: e.Window, Name: e.Name})
		return n, inRange(e.Window) && w < 0 && octal.IsName(e.Name)
	case api.EvSessionAdd:
		n.Sessions = sessionsWith(n.Sessions, api.Session{Id: e.Session, Name: e.Name, Current: -1, Last: -1})
		return n, inRange(e.Session) && x < 0 && octal.IsName(e.Name)
	case api.EvWindowClose, api.EvWindowRenamed, api.EvLayout, api.EvPaneChanged:
		if w < 0 {
			return n, false
		}
		return behindWindow(n, w, e)
	case api.EvSessionClose, api.EvSessionRenamed, api.EvLink, api.EvUnlink, api.EvSessionWindow:
		if x < 0 {
			return n, false
		}
		return behindSession(n, x, e)
	}
	return n, false
}

func behindWindow(n api.State, w int, e api.Event) (api.State, bool) {
	switch e.Kind {
	case api.EvWindowClose:
		free := linkedBy(n, e.Window) == 0
		n.Windows = append(append([]api.Window(nil), n.Windows[:w]...), n.Windows[w+1:]...)
		return n, free
	case api.EvWindowRenamed:
		n.Windows[w].Name = e.Name
		return n, octal.IsName(e.Name)
	case api.EvLayout:
		cells, good := plan.Parse(e.Layout)
		ok := good == api.OK && maySee(cells, e)
		n.Windows[w].Cells, n.Windows[w].Zoom = cells, e.Zoom
		return n, ok
	}
	ok := false
	for _, p := range layout.Panes(n.Windows[w].Cells) {
		ok = ok || p == e.Pane
	}
	n.Windows[w].Active, n.Windows[w].Last = e.Pane, 0
	return n, ok
}

func maySee(cells []api.Cell, e api.Event) bool {
	seen, err := plan.Parse(e.Visible)
	if err != api.OK {
		return false
	}
	if !e.Zoom {
		return e.Visible == e.Layout
	}
	for _, p := range layout.Panes(cells) {
		alone, _ := layout.New(cells[0].W, cells[0].H, p)
		if len(cells) > 1 && len(seen) == 1 && seen[0] == alone[0] {
			return true
		}
	}
	return false
}

func behindSession(n api.State, x int, e api.Event) (api.State, bool) {
	links := n.Sessions[x].Links
	place := -1
	for i := len(links) - 1; i >= 0; i-- {
		if links[i].Index == e.Index {
			place = i
		}
	}
	switch e.Kind {
	case api.EvSessionClose:
		n.Sessions = append(append([]api.Session(nil), n.Sessions[:x]...), n.Sessions[x+1:]...)
		return n, true
	case api.EvSessionRenamed:
		n.Sessions[x].Name = e.Name
		return n, octal.IsName(e.Name)
	case api.EvLink:
		n.Sessions[x].Links = linksWith(links, api.Link{Index: e.Index, Window: e.Window})
		return n, firstWindow(n, e.Window) >= 0 && 0 <= e.Index && e.Index <= 9999 && place < 0
	case api.EvUnlink:
		if place < 0 {
			return n, false
		}
		n.Sessions[x].Links = append(append([]api.Link(nil), links[:place]...), links[place+1:]...)
		return n, true
	}
	n.Sessions[x].Current, n.Sessions[x].Last = e.Index, -1
	return n, place >= 0
}

func inRange(id int) bool { return 1 <= id && id <= 1<<62 }

func standsSomewhere(s api.State, pane int) bool {
	for _, w := range s.Windows {
		if _, ok := layout.Find(w.Cells, pane); ok {
			return true
		}
	}
	return false
}

func firstWindow(s api.State, id int) int {
	for i, w := range s.Windows {
		if w.Id == id {
			return i
		}
	}
	return -1
}

func firstSession(s api.State, id int) int {
	for i, x := range s.Sessions {
		if x.Id == id {
			return i
		}
	}
	return -1
}

// The three below put one more into a list: ahead of the first one that is greater, or at the end.

func windowsWith(l []api.Window, one api.Window) (out []api.Window) {
	placed := false
	for _, y := range l {
		if !placed && y.Id > one.Id {
			out, placed = append(out, one), true
		}
		out = append(out, y)
	}
	if !placed {
		out = append(out, one)
	}
	return out
}

func sessionsWith(l []api.Session, one api.Session) (out []api.Session) {
	placed := false
	for _, y := range l {
		if !placed && y.Id > one.Id {
			out, placed = append(out, one), true
		}
		out = append(out, y)
	}
	if !placed {
		out = append(out, one)
	}
	return out
}

func linksWith(l []api.Link, one api.Link) (out []api.Link) {
	placed := false
	for _, y := range l {
		if !placed && y.Index > one.Index {
			out, placed = append(out, one), true
		}
		out = append(out, y)
	}
	if !placed {
		out = append(out, one)
	}
	return out
}
