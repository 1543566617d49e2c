package store

import (
	"cmp"
	"slices"
	"strings"

	"mullion/api"
	"mullion/layout"
	"mullion/octal"
)

// NewWindow makes a window in a session.
func (s *Store) NewWindow(session, index int, name string, choose bool) (api.Place, api.Errno) {
	x := s.sessions.find(session)
	switch {
	case x == nil:
		return api.Place{}, api.ErrNoSession
	case !mayBeIndex(index):
		return api.Place{}, api.ErrArg
	case !isNameOrNone(name):
		return api.Place{}, api.ErrName
	case isLinked(x, index):
		return api.Place{}, api.ErrTaken
	case !s.hasRoom(count{windows: 1, panes: 1, links: 1}):
		return api.Place{}, api.ErrFull
	}
	pane := s.addPane()
	window := s.addWindow(name, s.config.W, s.config.H, pane)
	index = addLink(x, index, window, choose)
	return api.Place{Session: session, Index: index, Window: window, Pane: pane}, api.OK
}

// addWindow makes a window of one pane, with sides that may be; it is not linked yet.
func (s *Store) addWindow(name string, w, h, pane int) int {
	cells, _ := layout.New(w, h, pane)
	return s.windows.add(api.Window{
		Id:     s.windows.next(),
		Name:   strings.Clone(cmp.Or(name, windowName)),
		Cells:  cells,
		Active: pane,
	})
}

// dropWindow lets a window that is linked nowhere go, with the panes that stand in it.
func (s *Store) dropWindow(window int) {
	for _, pane := range layout.Panes(s.windows.find(window).Cells) {
		s.panes.drop(pane)
	}
	s.windows.drop(window)
}

// CloseWindow closes one.
func (s *Store) CloseWindow(window int) api.Errno {
	if s.windows.find(window) == nil {
		return api.ErrNoWindow
	}
	s.unlinkAll(window)
	return api.OK
}

// unlinkAll lets all links of a window go, and so the window.
func (s *Store) unlinkAll(window int) {
	for _, p := range s.linksOf(window) {
		s.dropLink(p.Session, p.Index)
	}
}

// RenameWindow gives one another name.
func (s *Store) RenameWindow(window int, name string) api.Errno {
	w := s.windows.find(window)
	switch {
	case w == nil:
		return api.ErrNoWindow
	case !octal.IsName(name):
		return api.ErrName
	}
	w.Name = strings.Clone(name)
	return api.OK
}

// Resize gives a window another size.
func (s *Store) Resize(window, w, h int) api.Errno {
	x := s.windows.find(window)
	if x == nil {
		return api.ErrNoWindow
	}
	cells, err := layout.Resize(x.Cells, w, h)
	if err != api.OK {
		return err
	}
	x.Cells = cells
	return api.OK
}

// Arrange lays a window's panes anew.
func (s *Store) Arrange(window, how, size int) api.Errno {
	w := s.windows.find(window)
	if w == nil {
		return api.ErrNoWindow
	}
	cells, err := layout.Arrange(w.Cells, how, size)
	return layAnew(w, cells, err)
}

// Lay gives a window another layout.
func (s *Store) Lay(window int, cells []api.Cell) api.Errno {
	w := s.windows.find(window)
	if w == nil {
		return api.ErrNoWindow
	}
	panes := layout.Panes(w.Cells)
	if layout.Check(cells) != api.OK || len(layout.Panes(cells)) != len(panes) {
		return api.ErrLayout
	}
	if cells[0].W != w.Cells[0].W || cells[0].H != w.Cells[0].H {
		return api.ErrSide
	}
	return layAnew(w, withPanes(cells, panes), api.OK)
}

// withPanes is a layout with these panes, as many as it has, in the place of its own.
func withPanes(cells []api.Cell, panes []int) []api.Cell {
	cells = slices.Clone(cells)
	next := 0
	for i := range cells {
		if cells[i].Kind == api.CellPane {
			cells[i].Pane = panes[next]
			next++
		}
	}
	return cells
}

// layAnew gives a window the layout that layer 4 answered, unless that is an error. The zoom ends.
func layAnew(w *api.Window, cells []api.Cell, err api.Errno) api.Errno {
	if err != api.OK {
		return err
	}
	w.Cells, w.Zoom = cells, false
	return api.OK
}
