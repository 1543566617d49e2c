package store

import (
	"slices"

	"mullion/api"
	"mullion/layout"
	"mullion/tail"
)

// noPane is the last pane of a window that has none.
const noPane = 0

// addPane makes a pane that stands nowhere yet. New has seen to it that the limit of its logs may be.
func (s *Store) addPane() int {
	written, _ := tail.New(s.config.Tail)
	typed, _ := tail.New(s.config.Tail)
	return s.panes.add(logs{written, typed})
}

// windowOf is the window in which a pane stands; nil, if there is no such pane.
func (s *Store) windowOf(pane int) *api.Window {
	for _, w := range s.windows.rows {
		if _, ok := layout.Find(w.Cells, pane); ok {
			return w
		}
	}
	return nil
}

func isAlone(w *api.Window) bool { return len(w.Cells) == 1 }

// Split cuts a pane in two: the new one.
func (s *Store) Split(pane, kind, size int, before, choose bool) (int, api.Errno) {
	w := s.windowOf(pane)
	if w == nil {
		return 0, api.ErrNoPane
	}
	if !s.hasRoom(count{panes: 1}) {
		return 0, api.ErrFull
	}
	cells, err := layout.Split(w.Cells, pane, kind, size, before, s.panes.next())
	if err != api.OK {
		return 0, err
	}
	id := s.addPane()
	settle(w, cells, id, choose)
	return id, api.OK
}

// settle gives a window the layout in which a pane stands that has come to it.
func settle(w *api.Window, cells []api.Cell, pane int, choose bool) {
	w.Cells, w.Zoom = cells, false
	if choose {
		makeActive(w, pane)
	}
}

func makeActive(w *api.Window, pane int) {
	if pane != w.Active {
		w.Last, w.Active, w.Zoom = w.Active, pane, false
	}
}

// ClosePane closes one.
func (s *Store) ClosePane(pane int) api.Errno {
	w := s.windowOf(pane)
	if w == nil {
		return api.ErrNoPane
	}
	s.leave(w, pane)
	s.panes.drop(pane)
	return api.OK
}

// leave lets a pane go out of its window; the pane itself lives on. A window
// that it leaves empty is closed, and takes no pane with it.
func (s *Store) leave(w *api.Window, pane int) {
	if isAlone(w) {
		w.Cells = nil
		s.unlinkAll(w.Id)
		return
	}
	takeOut(w, pane)
}

// takeOut takes a pane out of a window that has others.
func takeOut(w *api.Window, pane int) {
	heir := besideInOrder(w, pane)
	w.Cells, _ = layout.Close(w.Cells, pane)
	w.Zoom = false
	switch {
	case pane == w.Last:
		w.Last = noPane
	case pane == w.Active && w.Last != noPane:
		w.Active, w.Last = w.Last, noPane
	case pane == w.Active:
		w.Active = heir
	}
}

// besideInOrder is the pane ahead of another one, or behind it, if that is the first.
func besideInOrder(w *api.Window, pane int) int {
	order := layout.Panes(w.Cells)
	at := slices.Index(order, pane)
	if at == 0 {
		return order[1]
	}
	return order[at-1]
}

// ChoosePane makes one active.
func (s *Store) ChoosePane(pane int) api.Errno {
	w := s.windowOf(pane)
	if w == nil {
		return api.ErrNoPane
	}
	makeActive(w, pane)
	return api.OK
}

// Push moves a pane's border.
func (s *Store) Push(pane, kind, n int) api.Errno {
	w := s.windowOf(pane)
	if w == nil {
		return api.ErrNoPane
	}
	cells, _, err := layout.Push(w.Cells, pane, kind, n)
	return layAnew(w, cells, err)
}

// Set gives a pane a width or a height.
func (s *Store) Set(pane, kind, size int) api.Errno {
	w := s.windowOf(pane)
	if w == nil {
		return api.ErrNoPane
	}
	cells, err := layout.Set(w.Cells, pane, kind, size)
	return layAnew(w, cells, err)
}

// Zoom begins or ends a window's zoom.
func (s *Store) Zoom(pane int) api.Errno {
	w := s.windowOf(pane)
	switch {
	case w == nil:
		return api.ErrNoPane
	case w.Zoom:
		w.Zoom = false
		return api.OK
	case isAlone(w):
		return api.ErrOnly
	}
	makeActive(w, pane)
	w.Zoom = true
	return api.OK
}

// Swap lets two panes change places.
func (s *Store) Swap(a, b int) api.Errno {
	v, w := s.windowOf(a), s.windowOf(b)
	switch {
	case v == nil || w == nil:
		return api.ErrNoPane
	case a == b:
		return api.OK
	}
	i, _ := layout.Find(v.Cells, a)
	j, _ := layout.Find(w.Cells, b)
	v.Cells[i].Pane, w.Cells[j].Pane = b, a
	v.Zoom, w.Zoom = false, false
	if v != w {
		succeed(v, a, b)
		succeed(w, b, a)
	}
	return api.OK
}

// succeed gives a pane the marks of the one whose place in the window it has taken.
func succeed(w *api.Window, was, is int) {
	w.Active = follow(w.Active, was, is)
	w.Last = follow(w.Last, was, is)
}

// Break moves a pane into a window of its own.
func (s *Store) Break(pane, session, index int, name string, choose bool) (api.Place, api.Errno) {
	w, x := s.windowOf(pane), s.sessions.find(session)
	switch {
	case w == nil:
		return api.Place{}, api.ErrNoPane
	case x == nil:
		return api.Place{}, api.ErrNoSession
	case !mayBeIndex(index):
		return api.Place{}, api.ErrArg
	case !isNameOrNone(name):
		return api.Place{}, api.ErrName
	case isLinked(x, index):
		return api.Place{}, api.ErrTaken
	case isAlone(w):
		return api.Place{}, api.ErrOnly
	case !s.hasRoom(count{windows: 1, links: 1}):
		return api.Place{}, api.ErrFull
	}
	takeOut(w, pane)
	window := s.addWindow(name, w.Cells[0].W, w.Cells[0].H, pane)
	index = addLink(x, index, window, choose)
	return api.Place{Session: session, Index: index, Window: window, Pane: pane}, api.OK
}

// Join moves a pane beside another one.
func (s *Store) Join(pane, beside, kind, size int, before, choose bool) api.Errno {
	from, into := s.windowOf(pane), s.windowOf(beside)
	switch {
	case from == nil || into == nil:
		return api.ErrNoPane
	case pane == beside:
		return api.ErrArg
	}
	cells := into.Cells
	if from == into {
		cells, _ = layout.Close(cells, pane)
	}
	cells, err := layout.Split(cells, beside, kind, size, before, pane)
	if err != api.OK {
		return err
	}
	s.leave(from, pane)
	settle(into, cells, pane, choose)
	return api.OK
}
