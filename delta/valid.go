package delta

import (
	"slices"

	"mullion/api"
	"mullion/layout"
	"mullion/octal"
)

// Valid tells whether a state may be.
func Valid(s api.State) bool {
	// How many there are comes first: the rest then looks at no more than may be.
	return hasRoom(s) && soundSessions(s) && soundWindows(s) && soundPanes(s.Windows)
}

func hasRoom(s api.State) bool {
	links := 0
	for _, x := range s.Sessions {
		links += len(x.Links)
	}
	return len(s.Sessions) <= api.MaxSessions && len(s.Windows) <= api.MaxWindows && links <= api.MaxLinks
}

func soundSessions(s api.State) bool {
	if !rises(s.Sessions, sessionId, 1, api.MaxNumber) {
		return false
	}
	for i, x := range s.Sessions {
		if hasName(s.Sessions[:i], x.Name) || !soundSession(x, s.Windows) {
			return false
		}
	}
	return true
}

func hasName(sessions []api.Session, name string) bool {
	return slices.ContainsFunc(sessions, func(x api.Session) bool { return x.Name == name })
}

// soundSession needs not count the links: where there is none, none is current.
func soundSession(x api.Session, windows []api.Window) bool {
	for _, l := range x.Links {
		if find(windows, windowId, l.Window) == nil {
			return false
		}
	}
	return octal.IsName(x.Name) && rises(x.Links, linkIndex, 0, api.MaxIndex) && soundMarks(x)
}

func soundMarks(x api.Session) bool {
	hasLink := func(index int) bool { return find(x.Links, linkIndex, index) != nil }
	return hasLink(x.Current) && (x.Last == noIndex || x.Last != x.Current && hasLink(x.Last))
}

func soundWindows(s api.State) bool {
	if !rises(s.Windows, windowId, 1, api.MaxNumber) {
		return false
	}
	for _, w := range s.Windows {
		if !octal.IsName(w.Name) || !isLinked(s.Sessions, w.Id) || !soundLayout(w) {
			return false
		}
	}
	return true
}

// soundLayout needs not ask whether the cells are a layout: what is none has no panes, so none is active.
func soundLayout(w api.Window) bool {
	panes := layout.Panes(w.Cells)
	hasPane := func(pane int) bool { return slices.Contains(panes, pane) }
	return hasPane(w.Active) && (w.Last == noPane || w.Last != w.Active && hasPane(w.Last)) && (!w.Zoom || len(panes) > 1)
}

// soundPanes: a pane that stands in two windows comes twice, and the list does not rise.
func soundPanes(windows []api.Window) bool {
	panes := panesOf(windows)
	return len(panes) <= api.MaxPanes && rises(panes, paneId, 1, api.MaxNumber)
}
