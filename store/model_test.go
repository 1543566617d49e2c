package store

import (
	"maps"
	"slices"
	"strconv"
	"strings"

	"mullion/api"
	"mullion/layout"
	"mullion/octal"
)

// A book is what a store should hold, in plain lists that rise by id. Its calls are written down from chapter 7 once
// more, sentence by sentence; of the logs it never lets a byte go.
type book struct {
	config                               api.Config
	sessions                             []api.Session
	windows                              []api.Window
	madeSessions, madeWindows, madePanes int
	written, typed                       map[int]string
}

func newBook(c api.Config) *book {
	return &book{config: c, written: map[int]string{}, typed: map[int]string{}}
}

func (b *book) copy() *book {
	c := *b
	c.sessions, c.windows = slices.Clone(b.sessions), slices.Clone(b.windows)
	for i := range c.sessions {
		c.sessions[i].Links = slices.Clone(c.sessions[i].Links)
	}
	for i := range c.windows {
		c.windows[i].Cells = slices.Clone(c.windows[i].Cells)
	}
	c.written, c.typed = maps.Clone(b.written), maps.Clone(b.typed)
	return &c
}

func (b *book) state() api.State {
	c := b.copy()
	return api.State{Sessions: c.sessions, Windows: c.windows}
}

// fault is an error with what it is the answer to.
type fault struct {
	is  bool
	err api.Errno
}

func firstOf(faults ...fault) api.Errno {
	for _, f := range faults {
		if f.is {
			return f.err
		}
	}
	return api.OK
}

// session gives a pointer into the list; without such a session, to one without links.
func (b *book) session(id int) *api.Session {
	for i := range b.sessions {
		if b.sessions[i].Id == id {
			return &b.sessions[i]
		}
	}
	return &api.Session{}
}

func (b *book) window(id int) *api.Window {
	for i := range b.windows {
		if b.windows[i].Id == id {
			return &b.windows[i]
		}
	}
	return &api.Window{}
}

// home is the window in which a pane stands; one without cells, if there is none.
func (b *book) home(pane int) *api.Window {
	for i := range b.windows {
		if slices.Contains(layout.Panes(b.windows[i].Cells), pane) {
			return &b.windows[i]
		}
	}
	return &api.Window{}
}

func (b *book) noSession(id int) fault { return fault{b.session(id).Id == 0, api.ErrNoSession} }
func (b *book) noWindow(id int) fault  { return fault{b.window(id).Id == 0, api.ErrNoWindow} }
func (b *book) noPane(id int) fault    { return fault{b.home(id).Id == 0, api.ErrNoPane} }

func (b *book) noIndex(session, index int) fault {
	return fault{linkedWindow(b.session(session), index) == 0, api.ErrNoIndex}
}

func (b *book) indexTaken(session, index int) fault {
	return fault{linkedWindow(b.session(session), index) != 0, api.ErrTaken}
}

func (b *book) nameTaken(name string, but int) fault {
	return fault{slices.ContainsFunc(b.sessions, func(x api.Session) bool { return x.Name == name && x.Id != but }), api.ErrTaken}
}

func badIndex(index int) fault   { return fault{index < -1 || index > 9999, api.ErrArg} }
func badName(name string) fault  { return fault{!octal.IsName(name), api.ErrName} }
func badOrNone(name string) bool { return name != "" && !octal.IsName(name) }

func (b *book) links() int {
	n := 0
	for _, x := range b.sessions {
		n += len(x.Links)
	}
	return n
}

// full has a letter for each kind of which one more is wanted.
func (b *book) full(kinds string) fault {
	room := map[rune]bool{'s': len(b.sessions) < 8, 'w': len(b.windows) < 16, 'p': len(b.written) < 32, 'l': b.links() < 32}
	for _, k := range kinds {
		if !room[k] {
			return fault{true, api.ErrFull}
		}
	}
	return fault{}
}

func linkedWindow(x *api.Session, index int) int {
	for _, l := range x.Links {
		if l.Index == index {
			return l.Window
		}
	}
	return 0
}

func (b *book) linked(window int) bool {
	return slices.ContainsFunc(b.sessions, func(x api.Session) bool {
		return slices.ContainsFunc(x.Links, func(l api.Link) bool { return l.Window == window })
	})
}

// A link goes.
func (b *book) linkGoes(session, index int) {
	x := b.session(session)
	window := linkedWindow(x, index)
	x.Links = slices.DeleteFunc(x.Links, func(l api.Link) bool { return l.Index == index })
	if x.Last == index {
		x.Last = -1
	} else if x.Current == index {
		if x.Last >= 0 {
			x.Current, x.Last = x.Last, -1
		} else {
			x.Current = -1
			for _, l := range x.Links {
				if l.Index < index || x.Current < 0 {
					x.Current = l.Index
				}
			}
		}
	}
	b.sessions = slices.DeleteFunc(b.sessions, func(x api.Session) bool { return len(x.Links) == 0 })
	if !b.linked(window) {
		b.closeWindowRow(window)
	}
}

func (b *book) closeWindowRow(window int) {
	for _, p := range layout.Panes(b.window(window).Cells) {
		delete(b.written, p)
		delete(b.typed, p)
	}
	b.windows = slices.DeleteFunc(b.windows, func(w api.Window) bool { return w.Id == window })
}

// An index is chosen.
func indexChosen(x *api.Session, index int) {
	if x.Current == index {
		return
	}
	x.Last = x.Current
	x.Current = index
}

// A pane goes out of a window that has others.
func paneGoes(w *api.Window, pane int) {
	order := layout.Panes(w.Cells)
	at := slices.Index(order, pane)
	w.Cells, _ = layout.Close(w.Cells, pane)
	if w.Last == pane {
		w.Last = 0
	}
	if w.Active == pane {
		switch {
		case w.Last != 0:
			w.Active, w.Last = w.Last, 0
		case at > 0:
			w.Active = order[at-1]
		default:
			w.Active = order[at+1]
		}
	}
	w.Zoom = false
}

// A pane is made active.
func paneActive(w *api.Window, pane int) {
	if w.Active == pane {
		return
	}
	w.Last = w.Active
	w.Active = pane
	w.Zoom = false
}

// placed is the index that was handed in, or a free one.
func placed(x *api.Session, index int) int {
	if index != -1 {
		return index
	}
	for index = 0; linkedWindow(x, index) != 0; index++ {
	}
	return index
}

func (b *book) linkJoins(session, index, window int) {
	x := b.session(session)
	x.Links = append(x.Links, api.Link{Index: index, Window: window})
	slices.SortFunc(x.Links, func(a, b api.Link) int { return a.Index - b.Index })
}

func (b *book) makePane() int {
	b.madePanes++
	b.written[b.madePanes], b.typed[b.madePanes] = "", ""
	return b.madePanes
}

func (b *book) makeWindow(name string, w, h, pane int) int {
	b.madeWindows++
	if name == "" {
		name = "sh"
	}
	b.windows = append(b.windows, api.Window{Id: b.madeWindows, Name: name, Active: pane,
		Cells: []api.Cell{{Kind: api.CellPane, W: w, H: h, Pane: pane}}})
	return b.madeWindows
}

func (b *book) newSession(name, window string, w, h int) (api.Place, api.Errno) {
	called := name
	if name == "" {
		called = strconv.Itoa(b.madeSessions + 1)
	}
	err := firstOf(fault{badOrNone(name) || badOrNone(window), api.ErrName}, fault{w < 0 || w > 1000 || h < 0 || h > 1000, api.ErrSide},
		b.full("swpl"), b.nameTaken(called, 0))
	if err != api.OK {
		return api.Place{}, err
	}
	if w == 0 {
		w = b.config.W
	}
	if h == 0 {
		h = b.config.H
	}
	b.madeSessions++
	pane := b.makePane()
	id := b.makeWindow(window, w, h, pane)
	b.sessions = append(b.sessions, api.Session{Id: b.madeSessions, Name: called, Current: 0, Last: -1})
	b.linkJoins(b.madeSessions, 0, id)
	return api.Place{Session: b.madeSessions, Index: 0, Window: id, Pane: pane}, api.OK
}

func (b *book) closeSession(session int) api.Errno {
	if err := firstOf(b.noSession(session)); err != api.OK {
		return err
	}
	for len(b.session(session).Links) > 0 {
		b.linkGoes(session, b.session(session).Links[0].Index)
	}
	return api.OK
}

func (b *book) renameSession(session int, name string) api.Errno {
	err := firstOf(b.noSession(session), badName(name), b.nameTaken(name, session))
	if err == api.OK {
		b.session(session).Name = name
	}
	return err
}

func (b *book) newWindow(session, index int, name string, choose bool) (api.Place, api.Errno) {
	err := firstOf(b.noSession(session), badIndex(index), fault{badOrNone(name), api.ErrName}, b.indexTaken(session, index), b.full("wpl"))
	if err != api.OK {
		return api.Place{}, err
	}
	pane := b.makePane()
	id := b.makeWindow(name, b.config.W, b.config.H, pane)
	index = b.joinChosen(session, index, id, choose)
	return api.Place{Session: session, Index: index, Window: id, Pane: pane}, api.OK
}

func (b *book) joinChosen(session, index, window int, choose bool) int {
	index = placed(b.session(session), index)
	b.linkJoins(session, index, window)
	if choose {
		indexChosen(b.session(session), index)
	}
	return index
}

func (b *book) closeWindow(window int) api.Errno {
	if err := firstOf(b.noWindow(window)); err != api.OK {
		return err
	}
	for _, x := range b.state().Sessions {
		for _, l := range x.Links {
			if l.Window == window {
				b.linkGoes(x.Id, l.Index)
			}
		}
	}
	return api.OK
}

func (b *book) renameWindow(window int, name string) api.Errno {
	err := firstOf(b.noWindow(window), badName(name))
	if err == api.OK {
		b.window(window).Name = name
	}
	return err
}

func (b *book) link(session, index, window int, choose bool) (int, api.Errno) {
	err := firstOf(b.noSession(session), b.noWindow(window), badIndex(index), b.indexTaken(session, index), b.full("l"))
	if err != api.OK {
		return 0, err
	}
	return b.joinChosen(session, index, window, choose), api.OK
}

func (b *book) unlink(session, index int) api.Errno {
	err := firstOf(b.noSession(session), b.noIndex(session, index))
	if err == api.OK {
		b.linkGoes(session, index)
	}
	return err
}

func (b *book) move(session, index, to, toIndex int) (int, api.Errno) {
	itself := session == to && index == toIndex
	err := firstOf(b.noSession(session), b.noSession(to), b.noIndex(session, index), badIndex(toIndex),
		fault{!itself && b.indexTaken(to, toIndex).is, api.ErrTaken})
	if err != api.OK {
		return 0, err
	}
	if itself {
		return index, api.OK
	}
	window := linkedWindow(b.session(session), index)
	toIndex = placed(b.session(to), toIndex)
	if session != to {
		b.linkJoins(to, toIndex, window)
		b.linkGoes(session, index)
		return toIndex, api.OK
	}
	x := b.session(session)
	for i := range x.Links {
		if x.Links[i].Index == index {
			x.Links[i].Index = toIndex
		}
	}
	slices.SortFunc(x.Links, func(a, b api.Link) int { return a.Index - b.Index })
	if x.Current == index {
		x.Current = toIndex
	}
	if x.Last == index {
		x.Last = toIndex
	}
	return toIndex, api.OK
}

func (b *book) exchange(session, index, other, otherIndex int) api.Errno {
	err := firstOf(b.noSession(session), b.noSession(other), b.noIndex(session, index), b.noIndex(other, otherIndex))
	if err != api.OK {
		return err
	}
	one, two := linkedWindow(b.session(session), index), linkedWindow(b.session(other), otherIndex)
	b.relink(session, index, two)
	b.relink(other, otherIndex, one)
	return api.OK
}

func (b *book) relink(session, index, window int) {
	x := b.session(session)
	for i := range x.Links {
		if x.Links[i].Index == index {
			x.Links[i].Window = window
		}
	}
}

func (b *book) choose(session, index int) api.Errno {
	err := firstOf(b.noSession(session), b.noIndex(session, index))
	if err == api.OK {
		indexChosen(b.session(session), index)
	}
	return err
}

func (b *book) split(pane, kind, size int, before, choose bool) (int, api.Errno) {
	w := b.home(pane)
	cells, layErr := layout.Split(w.Cells, pane, kind, size, before, b.madePanes+1)
	err := firstOf(b.noPane(pane), b.full("p"), fault{layErr != api.OK, layErr})
	if err != api.OK {
		return 0, err
	}
	w.Cells, w.Zoom = cells, false
	id := b.makePane()
	if choose {
		paneActive(w, id)
	}
	return id, api.OK
}

func (b *book) closePane(pane int) api.Errno {
	w := b.home(pane)
	if err := firstOf(b.noPane(pane)); err != api.OK {
		return err
	}
	if len(layout.Panes(w.Cells)) == 1 {
		return b.closeWindow(w.Id)
	}
	paneGoes(w, pane)
	delete(b.written, pane)
	delete(b.typed, pane)
	return api.OK
}

func (b *book) choosePane(pane int) api.Errno {
	err := firstOf(b.noPane(pane))
	if err == api.OK {
		paneActive(b.home(pane), pane)
	}
	return err
}

// laid gives a window another layout, if err is none.
func laid(w *api.Window, cells []api.Cell, err api.Errno) api.Errno {
	if err == api.OK {
		w.Cells, w.Zoom = cells, false
	}
	return err
}

func (b *book) push(pane, kind, n int) api.Errno {
	w := b.home(pane)
	cells, _, layErr := layout.Push(w.Cells, pane, kind, n)
	return laid(w, cells, firstOf(b.noPane(pane), fault{true, layErr}))
}

func (b *book) set(pane, kind, size int) api.Errno {
	w := b.home(pane)
	cells, layErr := layout.Set(w.Cells, pane, kind, size)
	return laid(w, cells, firstOf(b.noPane(pane), fault{true, layErr}))
}

func (b *book) resize(window, width, height int) api.Errno {
	w := b.window(window)
	zoom := w.Zoom
	cells, layErr := layout.Resize(w.Cells, width, height)
	err := laid(w, cells, firstOf(b.noWindow(window), fault{true, layErr}))
	w.Zoom = zoom
	return err
}

func (b *book) arrange(window, how, size int) api.Errno {
	w := b.window(window)
	cells, layErr := layout.Arrange(w.Cells, how, size)
	return laid(w, cells, firstOf(b.noWindow(window), fault{true, layErr}))
}

func (b *book) zoom(pane int) api.Errno {
	w := b.home(pane)
	err := firstOf(b.noPane(pane), fault{!w.Zoom && len(layout.Panes(w.Cells)) == 1, api.ErrOnly})
	if err != api.OK {
		return err
	}
	if w.Zoom {
		w.Zoom = false
		return api.OK
	}
	paneActive(w, pane)
	w.Zoom = true
	return api.OK
}

func (b *book) swap(a, c int) api.Errno {
	err := firstOf(b.noPane(a), b.noPane(c))
	if err != api.OK || a == c {
		return err
	}
	there := map[int]int{a: c, c: a}
	other := func(pane int) int {
		if o, ok := there[pane]; ok {
			return o
		}
		return pane
	}
	v, w := b.home(a), b.home(c)
	one := v.Id == w.Id
	v.Zoom, w.Zoom = false, false
	for i := range b.windows {
		x := &b.windows[i]
		for j := range x.Cells {
			x.Cells[j].Pane = other(x.Cells[j].Pane)
		}
		if !one {
			x.Active, x.Last = other(x.Active), other(x.Last)
		}
	}
	return api.OK
}

func (b *book) lay(window int, cells []api.Cell) api.Errno {
	w := b.window(window)
	panes := layout.Panes(w.Cells)
	whole, given := api.Cell{}, api.Cell{}
	if len(w.Cells) > 0 && len(cells) > 0 {
		whole, given = w.Cells[0], cells[0]
	}
	err := firstOf(b.noWindow(window), fault{layout.Check(cells) != api.OK, api.ErrLayout},
		fault{len(layout.Panes(cells)) != len(panes), api.ErrLayout}, fault{given.W != whole.W || given.H != whole.H, api.ErrSide})
	if err != api.OK {
		return err
	}
	w.Zoom = false
	w.Cells = slices.Clone(cells)
	for i := range w.Cells {
		if w.Cells[i].Pane != 0 {
			w.Cells[i].Pane, panes = panes[0], panes[1:]
		}
	}
	return api.OK
}

func (b *book) breakPane(pane, session, index int, name string, choose bool) (api.Place, api.Errno) {
	w := b.home(pane)
	err := firstOf(b.noPane(pane), b.noSession(session), badIndex(index), fault{badOrNone(name), api.ErrName},
		b.indexTaken(session, index), fault{len(layout.Panes(w.Cells)) == 1, api.ErrOnly}, b.full("wl"))
	if err != api.OK {
		return api.Place{}, err
	}
	paneGoes(w, pane)
	id := b.makeWindow(name, w.Cells[0].W, w.Cells[0].H, pane)
	index = b.joinChosen(session, index, id, choose)
	return api.Place{Session: session, Index: index, Window: id, Pane: pane}, api.OK
}

func (b *book) join(pane, beside, kind, size int, before, choose bool) api.Errno {
	from, into := b.home(pane), b.home(beside)
	base := into.Cells
	if from.Id == into.Id && pane != beside {
		base, _ = layout.Close(base, pane)
	}
	cells, layErr := layout.Split(base, beside, kind, size, before, pane)
	err := firstOf(b.noPane(pane), b.noPane(beside), fault{pane == beside, api.ErrArg}, fault{true, layErr})
	if err != api.OK {
		return err
	}
	if len(layout.Panes(from.Cells)) > 1 {
		paneGoes(from, pane)
	} else {
		written, typed := b.written[pane], b.typed[pane]
		b.closeWindow(from.Id)
		b.written[pane], b.typed[pane] = written, typed
	}
	// The window's place in the list may be another one now.
	into = b.home(beside)
	into.Cells, into.Zoom = cells, false
	if choose {
		paneActive(into, pane)
	}
	return api.OK
}

// kept is what a log keeps of all that was laid in, and the offset at which that begins.
func (b *book) kept(all string) (string, int) {
	start := max(0, len(all)-b.config.Tail)
	return all[start:], start
}

func (b *book) extent(pane int) (int, int, bool) {
	all, ok := b.written[pane]
	_, start := b.kept(all)
	return start, len(all), ok
}

func (b *book) read(pane, from, most int) (string, int, api.Errno) {
	all := b.written[pane]
	_, start := b.kept(all)
	err := firstOf(b.noPane(pane), fault{from < 0 || most < 0, api.ErrArg}, fault{from < start, api.ErrGone}, fault{from > len(all), api.ErrAhead})
	if err != api.OK {
		return "", 0, err
	}
	text := all[from:]
	if most < len(text) {
		text = text[:most]
	}
	return text, from + len(text), api.OK
}

func (b *book) write(pane int, text string) (int, api.Errno) {
	if err := firstOf(b.noPane(pane)); err != api.OK {
		return 0, err
	}
	begin := len(b.written[pane])
	b.written[pane] += text
	return begin, api.OK
}

func (b *book) lines(pane, n int) (string, api.Errno) {
	if err := firstOf(b.noPane(pane)); err != api.OK {
		return "", err
	}
	kept, _ := b.kept(b.written[pane])
	all := strings.SplitAfter(kept, "\n")
	if all[len(all)-1] == "" {
		all = all[:len(all)-1]
	}
	return strings.Join(all[len(all)-min(max(n, 0), len(all)):], ""), api.OK
}

func (b *book) typeText(pane int, text string) api.Errno {
	err := firstOf(b.noPane(pane))
	if err == api.OK {
		b.typed[pane] += text
	}
	return err
}

func (b *book) typedText(pane int) (string, bool) {
	all, ok := b.typed[pane]
	kept, _ := b.kept(all)
	return kept, ok
}
