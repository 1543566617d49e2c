package delta

import (
	"fmt"
	"math/rand"
	"slices"
	"strings"
	"testing"

	"mullion/api"
	"mullion/layout"
	"mullion/wire"
)

// States by hand.

func link0(index, window int) api.Link { return api.Link{Index: index, Window: window} }

func session(id int, name string, current int, links ...api.Link) api.Session {
	return api.Session{Id: id, Name: name, Links: links, Current: current, Last: -1}
}

func window(id int, name string, cells []api.Cell) api.Window {
	return api.Window{Id: id, Name: name, Cells: cells, Active: cells[len(cells)-1].Pane}
}

// side gives panes that stand side by side in a window of 80 x 24.
func side(panes ...int) []api.Cell { return sideOf(80, 24, panes...) }

func sideOf(w, h int, panes ...int) []api.Cell {
	l, err := layout.New(w, h, panes[0])
	for i := 1; i < len(panes) && err == api.OK; i++ {
		l, err = layout.Full(l, api.CellRow, 1, false, panes[i])
	}
	if len(panes) > 1 && err == api.OK {
		l, err = layout.Arrange(l, api.ArrEvenRow, 0)
	}
	if err != api.OK {
		panic(fmt.Sprint("no layout for ", panes, ": ", err))
	}
	return l
}

func zoomed(w api.Window) api.Window {
	w.Zoom = true
	return w
}

func activeIn(w api.Window, pane int) api.Window {
	w.Active = pane
	return w
}

func lastIn(w api.Window, pane int) api.Window {
	w.Last = pane
	return w
}

func lastOf(x api.Session, index int) api.Session {
	x.Last = index
	return x
}

// state puts sessions and windows together, each list in the order given.
func state(parts ...any) api.State {
	var s api.State
	for _, p := range parts {
		switch p := p.(type) {
		case api.Session:
			s.Sessions = append(s.Sessions, p)
		case api.Window:
			s.Windows = append(s.Windows, p)
		}
	}
	return s
}

// work is a session that shows one window with one pane.
func work() api.State {
	return state(session(1, "work", 0, link0(0, 1)), window(1, "sh", side(1)))
}

// fullState is at all bounds at once: sessions, windows, panes, links, ids, indices and names.
func fullState() api.State {
	var s api.State
	for i := range 8 {
		x := session(1<<62-7+i, fmt.Sprint(strings.Repeat("n", 31), i), 9999)
		for j := range 4 {
			x.Links = append(x.Links, link0(9996+j, 1<<62-(i*4+j)%16))
		}
		s.Sessions = append(s.Sessions, lastOf(x, 9996))
	}
	for i := range 16 {
		w := window(1<<62-15+i, strings.Repeat("w", 32), sideOf(1000, 1000, 1<<62-2*i, 1<<62-2*i-1))
		s.Windows = append(s.Windows, zoomed(lastIn(w, 1<<62-2*i)))
	}
	return s
}

// show is a state as lines of text; states are the same just if their texts are.
func show(s api.State) string {
	var b strings.Builder
	for _, x := range s.Sessions {
		fmt.Fprintf(&b, "session $%d %q current %d last %d links", x.Id, x.Name, x.Current, x.Last)
		for _, l := range x.Links {
			fmt.Fprintf(&b, " %d:@%d", l.Index, l.Window)
		}
		b.WriteByte('\n')
	}
	for _, w := range s.Windows {
		fmt.Fprintf(&b, "window @%d %q active %%%d last %%%d zoom %v cells", w.Id, w.Name, w.Active, w.Last, w.Zoom)
		for _, c := range w.Cells {
			fmt.Fprintf(&b, " %v", c)
		}
		b.WriteByte('\n')
	}
	return b.String()
}

func same(a, b api.State) bool {
	return slices.EqualFunc(a.Sessions, b.Sessions, func(x, y api.Session) bool {
		return x.Id == y.Id && x.Name == y.Name && x.Current == y.Current && x.Last == y.Last && slices.Equal(x.Links, y.Links)
	}) && slices.EqualFunc(a.Windows, b.Windows, func(v, w api.Window) bool {
		return v.Id == w.Id && v.Name == w.Name && v.Active == w.Active && v.Last == w.Last && v.Zoom == w.Zoom && slices.Equal(v.Cells, w.Cells)
	})
}

func wantState(t *testing.T, what string, got, want api.State) {
	t.Helper()
	if !same(got, want) {
		t.Fatalf("%s:\n%swant\n%s", what, show(got), show(want))
	}
}

// lines are events as the wire tells them, which is each in just one way.
func lines(t *testing.T, events []api.Event) string {
	t.Helper()
	text, err := wire.Text(events)
	if err != api.OK {
		t.Fatalf("not all of these have a line: %+v", events)
	}
	return text
}

// States by chance.

type maker struct{ r *rand.Rand }

func newMaker(seed int64) *maker { return &maker{rand.New(rand.NewSource(seed))} }

func (m *maker) chance(of100 int) bool { return m.r.Intn(100) < of100 }

func pick[T any](m *maker, from ...T) T { return from[m.r.Intn(len(from))] }

// some gives n different numbers of a small stock, so that two states have much in common; rising.
func (m *maker) some(n, stock int) []int {
	l := m.r.Perm(stock)[:n]
	for i := range l {
		l[i]++
		if l[i] > stock-2 {
			l[i] = api.MaxNumber - stock + l[i]
		}
	}
	slices.Sort(l)
	return l
}

func (m *maker) name() string {
	return pick(m, "a", "b", "c", "d", "e", "work 2", "sh", "~", strings.Repeat("x", 32), "Z{", "0", "f", "g", "h", "i", "j")
}

// cells lays out these panes, as far as there is room for them.
func (m *maker) cells(panes []int) []api.Cell {
	l, _ := layout.New(pick(m, 1, 2, 20, 80, 999, 1000), pick(m, 1, 3, 24, 100, 1000), panes[0])
	for _, p := range panes[1:] {
		there := layout.Panes(l)
		next, err := layout.Split(l, there[m.r.Intn(len(there))], pick(m, api.CellRow, api.CellCol), 0, m.chance(50), p)
		if err == api.OK {
			l = next
		}
	}
	if next, err := layout.Arrange(l, 1+m.r.Intn(5), 0); err == api.OK && m.chance(30) {
		l = next
	}
	return l
}

// state gives a state that may be.
func (m *maker) state() api.State {
	windows := pick(m, 0, 1, 1, 2, 2, 3, 4, 8, 16)
	if windows == 0 {
		return api.State{}
	}
	var s api.State
	panes := m.some(windows+m.r.Intn(33-windows), 36)
	m.r.Shuffle(len(panes), func(i, j int) { panes[i], panes[j] = panes[j], panes[i] })
	for i, id := range m.some(windows, 20) {
		own := panes[i : i+1]
		if i == windows-1 {
			own = panes[i:]
		} else if spare := len(panes) - windows; spare > 0 && m.chance(50) {
			n := 1 + m.r.Intn(spare)
			own, panes = append(own[:1:1], panes[len(panes)-n:]...), panes[:len(panes)-n]
		}
		s.Windows = append(s.Windows, m.window(id, m.cells(own)))
	}
	names := map[string]bool{}
	for _, id := range m.some(1+m.r.Intn(8), 10) {
		name := m.name()
		for names[name] {
			name = m.name()
		}
		names[name] = true
		s.Sessions = append(s.Sessions, api.Session{Id: id, Name: name})
	}
	m.linkAll(&s)
	for i := range s.Sessions {
		m.mark(&s.Sessions[i])
	}
	return s
}

func (m *maker) window(id int, cells []api.Cell) api.Window {
	panes := layout.Panes(cells)
	w := api.Window{Id: id, Name: m.name(), Cells: cells, Active: pick(m, panes...), Zoom: len(panes) > 1 && m.chance(30)}
	if last := pick(m, panes...); last != w.Active && m.chance(60) {
		w.Last = last
	}
	return w
}

// linkAll gives each session a link and each window one, and some more.
func (m *maker) linkAll(s *api.State) {
	add := func(x *api.Session, window int) {
		index := pick(m, 0, 1, 2, 3, 4, 5, 6, 7, 9998, 9999)
		for slices.ContainsFunc(x.Links, func(l api.Link) bool { return l.Index == index }) {
			index = m.r.Intn(10000)
		}
		x.Links = append(x.Links, link0(index, window))
		slices.SortFunc(x.Links, func(a, b api.Link) int { return a.Index - b.Index })
	}
	for i := range s.Sessions {
		add(&s.Sessions[i], pick(m, s.Windows...).Id)
	}
	for _, w := range s.Windows {
		if linkedBy(*s, w.Id) == 0 {
			add(&s.Sessions[m.r.Intn(len(s.Sessions))], w.Id)
		}
	}
	count := 0
	for _, x := range s.Sessions {
		count += len(x.Links)
	}
	for range m.r.Intn(33 - count) {
		add(&s.Sessions[m.r.Intn(len(s.Sessions))], pick(m, s.Windows...).Id)
	}
}

func (m *maker) mark(x *api.Session) {
	x.Current, x.Last = pick(m, x.Links...).Index, -1
	if last := pick(m, x.Links...).Index; last != x.Current && m.chance(60) {
		x.Last = last
	}
}

// near gives a state that may be and differs from another one in one thing or a few.
func (m *maker) near(s api.State) api.State {
	if len(s.Sessions) == 0 {
		return m.state()
	}
	for {
		c := twin(s)
		for range 1 + m.r.Intn(3) {
			m.edit(&c)
		}
		if len(broken(c)) == 0 {
			return c
		}
	}
}

// edit changes one thing, whether or not what comes out may be.
func (m *maker) edit(s *api.State) {
	if len(s.Sessions) == 0 || len(s.Windows) == 0 {
		return
	}
	at := m.r.Intn(len(s.Sessions))
	x, w := &s.Sessions[at], &s.Windows[m.r.Intn(len(s.Windows))]
	if len(x.Links) == 0 {
		return
	}
	switch m.r.Intn(14) {
	case 0:
		x.Name = m.name()
	case 1:
		w.Name = m.name()
	case 2:
		w.Zoom = !w.Zoom
	case 3:
		w.Active, w.Last = pick(m, layout.Panes(w.Cells)...), 0
	case 4:
		w.Cells = m.cells(layout.Panes(w.Cells))
	case 5:
		w.Last = pick(m, 0, pick(m, layout.Panes(w.Cells)...))
	case 6:
		m.mark(x)
	case 7:
		x.Links[m.r.Intn(len(x.Links))].Window = w.Id
	case 8:
		x.Links[m.r.Intn(len(x.Links))].Index++
		m.mark(x)
	case 9:
		i := m.r.Intn(len(x.Links))
		x.Links = slices.Delete(x.Links, i, i+1)
	case 10:
		m.editPanes(s, w)
	case 11:
		s.Sessions = slices.Delete(s.Sessions, at, at+1)
	case 12:
		m.addWindow(s, x)
	case 13:
		s.Sessions = sessionsWith(s.Sessions, session(m.some(1, 10)[0], m.name(), 3, link0(3, w.Id)))
	}
}

// addWindow makes a window that is linked once, or lets one go with all its links.
func (m *maker) addWindow(s *api.State, x *api.Session) {
	id := m.some(1, 20)[0]
	if at := firstWindow(*s, id); at >= 0 {
		s.Windows = slices.Delete(s.Windows, at, at+1)
		for i := range s.Sessions {
			s.Sessions[i].Links = slices.DeleteFunc(s.Sessions[i].Links, func(l api.Link) bool { return l.Window == id })
		}
		return
	}
	x.Links = linksWith(x.Links, link0(m.r.Intn(10), id))
	s.Windows = windowsWith(s.Windows, m.window(id, m.cells(m.some(1, 36))))
}

// editPanes brings a pane that is new, or lets one go, or moves one to another window.
func (m *maker) editPanes(s *api.State, w *api.Window) {
	panes := layout.Panes(w.Cells)
	pane := pick(m, panes...)
	if less, err := layout.Close(w.Cells, pane); err == api.OK && m.chance(60) {
		w.Cells = less
		panes = layout.Panes(less)
		w.Active, w.Last = pick(m, panes...), 0
		w = &s.Windows[m.r.Intn(len(s.Windows))]
		panes = layout.Panes(w.Cells)
		if m.chance(50) {
			return
		}
	} else {
		pane = m.some(1, 36)[0]
	}
	if more, err := layout.Split(w.Cells, pick(m, panes...), pick(m, api.CellRow, api.CellCol), 0, m.chance(50), pane); err == api.OK {
		w.Cells = more
	}
}
