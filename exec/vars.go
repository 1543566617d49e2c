package exec

import (
	"slices"

	"mullion/api"
	"mullion/layout"
	"mullion/octal"
	"mullion/plan"
	"mullion/store"
)

// Vars are the names and values for a place.
func Vars(st *store.Store, p api.Place) []api.Var {
	if !isMade(st) {
		return nil
	}
	return varsAt(st, st.State(), p)
}

// varsAt takes the store's state too: a command that fills in a format at many
// places asks for it once.
func varsAt(st *store.Store, s api.State, p api.Place) []api.Var {
	x, w := sessionOf(s, p.Session), windowOf(s, p.Window)
	at, ok := layout.Find(w.Cells, p.Pane)
	if !ok || !slices.Contains(x.Links, api.Link{Index: p.Index, Window: p.Window}) {
		return nil
	}
	pane, whole, panes := w.Cells[at], w.Cells[0], layout.Panes(w.Cells)
	_, end, _ := st.Extent(p.Pane)
	return []api.Var{
		{Name: "pane_active", Value: yesOrNo(p.Pane == w.Active)},
		{Name: "pane_bytes", Value: octal.PutNumber(end)},
		{Name: "pane_height", Value: octal.PutNumber(pane.H)},
		{Name: "pane_id", Value: octal.PutId('%', p.Pane)},
		{Name: "pane_index", Value: octal.PutNumber(slices.Index(panes, p.Pane))},
		{Name: "pane_left", Value: octal.PutNumber(pane.X)},
		{Name: "pane_top", Value: octal.PutNumber(pane.Y)},
		{Name: "pane_width", Value: octal.PutNumber(pane.W)},
		{Name: "session_id", Value: octal.PutId('$', p.Session)},
		{Name: "session_name", Value: x.Name},
		{Name: "session_windows", Value: octal.PutNumber(len(x.Links))},
		{Name: "window_active", Value: yesOrNo(p.Index == x.Current)},
		{Name: "window_flags", Value: flagsOf(x, p.Index, w.Zoom)},
		{Name: "window_height", Value: octal.PutNumber(whole.H)},
		{Name: "window_id", Value: octal.PutId('@', p.Window)},
		{Name: "window_index", Value: octal.PutNumber(p.Index)},
		{Name: "window_layout", Value: planOf(w.Cells)},
		{Name: "window_name", Value: w.Name},
		{Name: "window_panes", Value: octal.PutNumber(len(panes))},
		{Name: "window_visible_layout", Value: planOf(visible(w))},
		{Name: "window_width", Value: octal.PutNumber(whole.W)},
		{Name: "window_zoomed_flag", Value: yesOrNo(w.Zoom)},
	}
}

func yesOrNo(yes bool) string {
	if yes {
		return "1"
	}
	return "0"
}

func flagsOf(x api.Session, index int, zoom bool) string {
	flags := ""
	switch index {
	case x.Current:
		flags = "*"
	case x.Last:
		flags = "-"
	}
	if zoom {
		flags += "Z"
	}
	return flags
}

// planOf is the text of a layout that comes from a state: it is one.
func planOf(l []api.Cell) string {
	text, _ := plan.Text(l)
	return text
}

// visible is what is shown of a window.
func visible(w api.Window) []api.Cell {
	if !w.Zoom {
		return w.Cells
	}
	l, _ := layout.New(w.Cells[0].W, w.Cells[0].H, w.Active)
	return l
}

// sessionOf gives a session without links, if there is none of that id.
func sessionOf(s api.State, id int) api.Session {
	at := slices.IndexFunc(s.Sessions, func(x api.Session) bool { return x.Id == id })
	if at < 0 {
		return api.Session{}
	}
	return s.Sessions[at]
}

// windowOf gives a window without panes, if there is none of that id.
func windowOf(s api.State, id int) api.Window {
	at := slices.IndexFunc(s.Windows, func(w api.Window) bool { return w.Id == id })
	if at < 0 {
		return api.Window{}
	}
	return s.Windows[at]
}
