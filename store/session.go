package store

import (
	"cmp"
	"slices"
	"strings"

	"mullion/api"
	"mullion/octal"
)

const (
	noIndex   = -1 // the last index of a session that has none
	freeIndex = -1 // handed in: any index that is free
)

// NewSession makes a session with a window.
func (s *Store) NewSession(name, window string, w, h int) (api.Place, api.Errno) {
	if !isNameOrNone(name) || !isNameOrNone(window) {
		return api.Place{}, api.ErrName
	}
	w, h = cmp.Or(w, s.config.W), cmp.Or(h, s.config.H)
	if !isSide(w) || !isSide(h) {
		return api.Place{}, api.ErrSide
	}
	if !s.hasRoom(count{sessions: 1, windows: 1, panes: 1, links: 1}) {
		return api.Place{}, api.ErrFull
	}
	id := s.sessions.next()
	name = cmp.Or(name, octal.PutNumber(id))
	if s.isTaken(name, id) {
		return api.Place{}, api.ErrTaken
	}
	pane := s.addPane()
	p := api.Place{Session: id, Index: 0, Window: s.addWindow(window, w, h, pane), Pane: pane}
	s.sessions.add(api.Session{
		Id:      id,
		Name:    strings.Clone(name),
		Links:   []api.Link{{Index: p.Index, Window: p.Window}},
		Current: p.Index,
		Last:    noIndex,
	})
	return p, api.OK
}

// isTaken tells whether a session other than that one has the name.
func (s *Store) isTaken(name string, but int) bool {
	for id, x := range s.sessions.rows {
		if id != but && x.Name == name {
			return true
		}
	}
	return false
}

// CloseSession closes one.
func (s *Store) CloseSession(session int) api.Errno {
	x := s.sessions.find(session)
	if x == nil {
		return api.ErrNoSession
	}
	for len(x.Links) > 0 {
		s.dropLink(session, x.Links[0].Index)
	}
	return api.OK
}

// RenameSession gives one another name.
func (s *Store) RenameSession(session int, name string) api.Errno {
	x := s.sessions.find(session)
	switch {
	case x == nil:
		return api.ErrNoSession
	case !octal.IsName(name):
		return api.ErrName
	case s.isTaken(name, session):
		return api.ErrTaken
	}
	x.Name = strings.Clone(name)
	return api.OK
}

// Link links a window into a session: at which index.
func (s *Store) Link(session, index, window int, choose bool) (int, api.Errno) {
	x := s.sessions.find(session)
	switch {
	case x == nil:
		return 0, api.ErrNoSession
	case s.windows.find(window) == nil:
		return 0, api.ErrNoWindow
	case !mayBeIndex(index):
		return 0, api.ErrArg
	case isLinked(x, index):
		return 0, api.ErrTaken
	case !s.hasRoom(count{links: 1}):
		return 0, api.ErrFull
	}
	return addLink(x, index, window, choose), api.OK
}

// Unlink takes a link out.
func (s *Store) Unlink(session, index int) api.Errno {
	x := s.sessions.find(session)
	switch {
	case x == nil:
		return api.ErrNoSession
	case !isLinked(x, index):
		return api.ErrNoIndex
	}
	s.dropLink(session, index)
	return api.OK
}

// Move moves a link: to which index.
func (s *Store) Move(session, index, to, toIndex int) (int, api.Errno) {
	from, into := s.sessions.find(session), s.sessions.find(to)
	if from == nil || into == nil {
		return 0, api.ErrNoSession
	}
	at, ok := findLink(from, index)
	switch {
	case !ok:
		return 0, api.ErrNoIndex
	case !mayBeIndex(toIndex):
		return 0, api.ErrArg
	case from == into && index == toIndex:
		return index, api.OK
	case isLinked(into, toIndex):
		return 0, api.ErrTaken
	}
	// It comes ahead of its going: so its window is linked all the time, and is not closed.
	toIndex = addLink(into, toIndex, from.Links[at].Window, false)
	if from == into {
		from.Current = follow(from.Current, index, toIndex)
		from.Last = follow(from.Last, index, toIndex)
	}
	s.dropLink(session, index)
	return toIndex, api.OK
}

// follow is what a mark becomes when that which it may stand at is another one now.
func follow(mark, was, is int) int {
	if mark == was {
		return is
	}
	return mark
}

// Exchange exchanges two links' windows.
func (s *Store) Exchange(session, index, other, otherIndex int) api.Errno {
	x, y := s.sessions.find(session), s.sessions.find(other)
	if x == nil || y == nil {
		return api.ErrNoSession
	}
	i, ok := findLink(x, index)
	j, also := findLink(y, otherIndex)
	if !ok || !also {
		return api.ErrNoIndex
	}
	x.Links[i].Window, y.Links[j].Window = y.Links[j].Window, x.Links[i].Window
	return api.OK
}

// Choose makes an index current.
func (s *Store) Choose(session, index int) api.Errno {
	x := s.sessions.find(session)
	switch {
	case x == nil:
		return api.ErrNoSession
	case !isLinked(x, index):
		return api.ErrNoIndex
	}
	chooseIndex(x, index)
	return api.OK
}

func chooseIndex(x *api.Session, index int) {
	if index != x.Current {
		x.Last, x.Current = x.Current, index
	}
}

func mayBeIndex(index int) bool {
	return index == freeIndex || index >= 0 && index <= api.MaxIndex
}

// findLink gives the place of the link at an index, or the place that it would have.
func findLink(x *api.Session, index int) (int, bool) {
	return slices.BinarySearchFunc(x.Links, index, func(l api.Link, index int) int {
		return cmp.Compare(l.Index, index)
	})
}

func isLinked(x *api.Session, index int) bool {
	_, ok := findLink(x, index)
	return ok
}

func leastFree(x *api.Session) int {
	index := 0
	for isLinked(x, index) {
		index++
	}
	return index
}

// addLink puts a window at an index that is not linked, or at a free one, and tells which.
func addLink(x *api.Session, index, window int, choose bool) int {
	if index == freeIndex {
		index = leastFree(x)
	}
	at, _ := findLink(x, index)
	x.Links = slices.Insert(x.Links, at, api.Link{Index: index, Window: window})
	if choose {
		chooseIndex(x, index)
	}
	return index
}

// dropLink lets a link go, and with it the session and the window that are left without one.
func (s *Store) dropLink(session, index int) {
	x := s.sessions.find(session)
	at, _ := findLink(x, index)
	window := x.Links[at].Window
	x.Links = slices.Delete(x.Links, at, at+1)
	if len(x.Links) == 0 {
		s.sessions.drop(session)
	} else {
		forgetIndex(x, index, at)
	}
	if len(s.linksOf(window)) == 0 {
		s.dropWindow(window)
	}
}

// forgetIndex mends the marks of a session whose link at that index, and at that place of the list, has gone.
func forgetIndex(x *api.Session, index, at int) {
	switch {
	case index == x.Last:
		x.Last = noIndex
	case index == x.Current && x.Last != noIndex:
		x.Current, x.Last = x.Last, noIndex
	case index == x.Current:
		x.Current = x.Links[max(at-1, 0)].Index
	}
}

func (s *Store) linkCount() int {
	n := 0
	for _, x := range s.sessions.rows {
		n += len(x.Links)
	}
	return n
}

// linksOf tells where a window is linked, by rising session and index.
func (s *Store) linksOf(window int) []api.Place {
	var places []api.Place
	for _, id := range s.sessions.ids() {
		for _, l := range s.sessions.find(id).Links {
			if l.Window == window {
				places = append(places, api.Place{Session: id, Index: l.Index})
			}
		}
	}
	return places
}
