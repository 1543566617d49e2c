package store

import (
	"fmt"
	"slices"

	"mullion/api"
	"mullion/layout"
	"mullion/octal"
)

// invalid says why a state is none in the sense of chapter 8; empty, if it is one.
func invalid(s api.State) string {
	if len(s.Sessions) > api.MaxSessions || len(s.Windows) > api.MaxWindows {
		return "too many sessions or windows"
	}
	links := map[int]int{} // how often each window is linked
	names := map[string]int{}
	above, total := 0, 0
	for _, x := range s.Sessions {
		names[x.Name]++
		total += len(x.Links)
		if x.Id <= above || x.Id > api.MaxNumber || !octal.IsName(x.Name) || names[x.Name] > 1 {
			return fmt.Sprintf("session %d %q: its id or its name", x.Id, x.Name)
		}
		above = x.Id
		if why := invalidLinks(x); why != "" {
			return fmt.Sprintf("session %d: %s", x.Id, why)
		}
		for _, l := range x.Links {
			links[l.Window]++
		}
	}
	if total > api.MaxLinks {
		return "too many links"
	}
	return invalidWindows(s.Windows, links)
}

func invalidLinks(x api.Session) string {
	indices := map[int]bool{}
	above := -1
	for _, l := range x.Links {
		if l.Index <= above || l.Index > api.MaxIndex {
			return fmt.Sprintf("its index %d", l.Index)
		}
		above = l.Index
		indices[l.Index] = true
	}
	if !indices[x.Current] {
		return fmt.Sprintf("its current index %d", x.Current)
	}
	if x.Last != -1 && (!indices[x.Last] || x.Last == x.Current) {
		return fmt.Sprintf("its last index %d beside the current one %d", x.Last, x.Current)
	}
	return ""
}

func invalidWindows(windows []api.Window, links map[int]int) string {
	panes := map[int]int{}
	above := 0
	for _, w := range windows {
		if w.Id <= above || w.Id > api.MaxNumber || !octal.IsName(w.Name) {
			return fmt.Sprintf("window %d %q: its id or its name", w.Id, w.Name)
		}
		above = w.Id
		if links[w.Id] == 0 {
			return fmt.Sprintf("window %d is linked nowhere", w.Id)
		}
		delete(links, w.Id)
		own := layout.Panes(w.Cells)
		if layout.Check(w.Cells) != api.OK || !slices.Contains(own, w.Active) || w.Zoom && len(own) == 1 {
			return fmt.Sprintf("window %d: its layout %v, its active pane %d or its zoom", w.Id, w.Cells, w.Active)
		}
		if w.Last != 0 && (!slices.Contains(own, w.Last) || w.Last == w.Active) {
			return fmt.Sprintf("window %d: its last pane %d beside the active one %d", w.Id, w.Last, w.Active)
		}
		for _, p := range own {
			panes[p]++
			if panes[p] > 1 {
				return fmt.Sprintf("pane %d stands in two windows", p)
			}
		}
	}
	if len(links) > 0 {
		return fmt.Sprint("links to windows that are none: ", links)
	}
	if len(panes) > api.MaxPanes {
		return "too many panes"
	}
	return ""
}
