package delta

import (
	"slices"
	"sort"

	"mullion/api"
	"mullion/layout"
	"mullion/octal"
	"mullion/plan"
)

// Chapter 8, written once more, as it stands there: line by line, by plain loops.

// broken names the lines of the chapter's list that a state breaks; a state that may be breaks none.
func broken(s api.State) []string {
	var lines []string
	must := func(ok bool, line string) {
		if !ok && !slices.Contains(lines, line) {
			lines = append(lines, line)
		}
	}
	must(len(s.Sessions) <= 8, "most sessions")
	must(len(s.Windows) <= 16, "most windows")
	links, panes := 0, map[int]int{}
	for i, x := range s.Sessions {
		must(i == 0 || s.Sessions[i-1].Id < x.Id, "sessions rise")
		must(1 <= x.Id && x.Id <= 1<<62, "session's id")
		must(octal.IsName(x.Name), "session's name")
		for _, y := range s.Sessions[:i] {
			must(x.Name != y.Name, "sessions' names differ")
		}
		links += len(x.Links)
		brokenLinks(x, s.Windows, must)
	}
	must(links <= 32, "most links")
	for i, w := range s.Windows {
		must(i == 0 || s.Windows[i-1].Id < w.Id, "windows rise")
		must(1 <= w.Id && w.Id <= 1<<62, "window's id")
		must(octal.IsName(w.Name), "window's name")
		must(linkedBy(s, w.Id) > 0, "window is linked")
		brokenLayout(w, must)
		for _, p := range layout.Panes(w.Cells) {
			panes[p]++
			must(panes[p] == 1, "pane in one window")
		}
	}
	must(len(panes) <= 32, "most panes")
	return lines
}

func brokenLinks(x api.Session, windows []api.Window, must func(bool, string)) {
	must(len(x.Links) > 0, "one link or more")
	current, last := false, false
	for i, l := range x.Links {
		must(i == 0 || x.Links[i-1].Index < l.Index, "links rise")
		must(0 <= l.Index && l.Index <= 9999, "link's index")
		there := false
		for _, w := range windows {
			there = there || w.Id == l.Window
		}
		must(there, "link's window")
		current = current || l.Index == x.Current
		last = last || l.Index == x.Last
	}
	must(current, "current")
	must(x.Last == -1 || last, "last index")
	must(x.Last == -1 || x.Last != x.Current, "last index is not current")
}

func brokenLayout(w api.Window, must func(bool, string)) {
	must(layout.Check(w.Cells) == api.OK, "layout")
	active, last, panes := false, false, layout.Panes(w.Cells)
	for _, p := range panes {
		active = active || p == w.Active
		last = last || p == w.Last
	}
	must(active, "active")
	must(w.Last == 0 || last, "last pane")
	must(w.Last == 0 || w.Last != w.Active, "last pane is not active")
	must(!w.Zoom || len(panes) != 1, "zoom")
}

func linkedBy(s api.State, window int) int {
	n := 0
	for _, x := range s.Sessions {
		for _, l := range x.Links {
			if l.Window == window {
				n++
			}
		}
	}
	return n
}

// plainOf is a copy without what was current or active ahead.
func plainOf(s api.State) api.State {
	c := twin(s)
	for i := range c.Sessions {
		c.Sessions[i].Last = -1
	}
	for i := range c.Windows {
		c.Windows[i].Last = 0
	}
	return c
}

func twin(s api.State) api.State {
	var c api.State
	for _, x := range s.Sessions {
		x.Links = append([]api.Link(nil), x.Links...)
		c.Sessions = append(c.Sessions, x)
	}
	for _, w := range s.Windows {
		w.Cells = append([]api.Cell(nil), w.Cells...)
		c.Windows = append(c.Windows, w)
	}
	return c
}

// facts are a state, to be asked by ids: of states that may be, where each is there once.
type facts struct {
	sessions map[int]api.Session
	windows  map[int]api.Window
	links    map[int]map[int]int // by session and index
	panes    map[int]bool
}

func factsOf(s api.State) facts {
	f := facts{map[int]api.Session{}, map[int]api.Window{}, map[int]map[int]int{}, map[int]bool{}}
	for _, x := range s.Sessions {
		f.sessions[x.Id] = x
		f.links[x.Id] = map[int]int{}
		for _, l := range x.Links {
			f.links[x.Id][l.Index] = l.Window
		}
	}
	for _, w := range s.Windows {
		f.windows[w.Id] = w
		for _, p := range layout.Panes(w.Cells) {
			f.panes[p] = true
		}
	}
	return f
}

func rising[V any](m map[int]V) []int {
	var l []int
	for n := range m {
		l = append(l, n)
	}
	sort.Ints(l)
	return l
}

// twoPlans are a window's layout and its visible plan.
func twoPlans(w api.Window) [2]string {
	whole, _ := plan.Text(w.Cells)
	if !w.Zoom {
		return [2]string{whole, whole}
	}
	alone, _ := plan.Text([]api.Cell{{Kind: api.CellPane, W: w.Cells[0].W, H: w.Cells[0].H, Pane: w.Active}})
	return [2]string{whole, alone}
}

// told is the difference: the thirteen groups, one behind the other, as the chapter counts them.
func told(from, to api.State) []api.Event {
	a, b := factsOf(from), factsOf(to)
	var l []api.Event
	for _, p := range rising(b.panes) {
		if !a.panes[p] {
			l = append(l, api.Event{Kind: api.EvPaneAdd, Pane: p})
		}
	}
	l = append(l, toldWindows(a, b)...)
	l = append(l, toldSessions(a, b)...)
	for _, id := range rising(a.sessions) {
		if _, ok := b.sessions[id]; !ok {
			l = append(l, api.Event{Kind: api.EvSessionClose, Session: id})
		}
	}
	for _, id := range rising(a.windows) {
		if _, ok := b.windows[id]; !ok {
			l = append(l, api.Event{Kind: api.EvWindowClose, Window: id})
		}
	}
	for _, p := range rising(a.panes) {
		if !b.panes[p] {
			l = append(l, api.Event{Kind: api.EvPaneClose, Pane: p})
		}
	}
	return l
}

// toldWindows are the groups 2 to 5.
func toldWindows(a, b facts) []api.Event {
	var l []api.Event
	ids := rising(b.windows)
	for _, id := range ids {
		if _, both := a.windows[id]; !both {
			l = append(l, api.Event{Kind: api.EvWindowAdd, Window: id, Name: b.windows[id].Name})
		}
	}
	for _, id := range ids {
		if old, both := a.windows[id]; both && old.Name != b.windows[id].Name {
			l = append(l, api.Event{Kind: api.EvWindowRenamed, Window: id, Name: b.windows[id].Name})
		}
	}
	for _, id := range ids {
		old, both := a.windows[id]
		now := b.windows[id]
		if p := twoPlans(now); !both || twoPlans(old) != p || old.Zoom != now.Zoom {
			l = append(l, api.Event{Kind: api.EvLayout, Window: id, Layout: p[0], Visible: p[1], Zoom: now.Zoom})
		}
	}
	for _, id := range ids {
		if old, both := a.windows[id]; !both || old.Active != b.windows[id].Active {
			l = append(l, api.Event{Kind: api.EvPaneChanged, Window: id, Pane: b.windows[id].Active})
		}
	}
	return l
}

// toldSessions are the groups 6 to 10.
func toldSessions(a, b facts) []api.Event {
	var l []api.Event
	ids := rising(b.sessions)
	for _, id := range ids {
		if _, both := a.sessions[id]; !both {
			l = append(l, api.Event{Kind: api.EvSessionAdd, Session: id, Name: b.sessions[id].Name})
		}
	}
	for _, id := range ids {
		if old, both := a.sessions[id]; both && old.Name != b.sessions[id].Name {
			l = append(l, api.Event{Kind: api.EvSessionRenamed, Session: id, Name: b.sessions[id].Name})
		}
	}
	for _, id := range ids {
		for _, index := range rising(a.links[id]) {
			if now, is := b.links[id][index]; !is || a.links[id][index] != now {
				l = append(l, api.Event{Kind: api.EvUnlink, Session: id, Index: index})
			}
		}
	}
	for _, id := range ids {
		for _, index := range rising(b.links[id]) {
			if old, was := a.links[id][index]; !was || old != b.links[id][index] {
				l = append(l, api.Event{Kind: api.EvLink, Session: id, Index: index, Window: b.links[id][index]})
			}
		}
	}
	for _, id := range ids {
		if old, both := a.sessions[id]; !both || old.Current != b.sessions[id].Current {
			l = append(l, api.Event{Kind: api.EvSessionWindow, Session: id, Index: b.sessions[id].Current})
		}
	}
	return l
}
