package target

import (
	"fmt"
	"math/rand"
	"slices"
	"strings"
	"testing"

	"mullion/api"
	"mullion/delta"
	"mullion/layout"
)

// States by hand.

func link(index, window int) api.Link { return api.Link{Index: index, Window: window} }

func session(id int, name string, current, last int, links ...api.Link) api.Session {
	return api.Session{Id: id, Name: name, Links: links, Current: current, Last: last}
}

// window has its panes side by side.
func window(id int, name string, active, last int, panes ...int) api.Window {
	l, err := layout.New(200, 24, panes[0])
	for i := 1; i < len(panes) && err == api.OK; i++ {
		l, err = layout.Full(l, api.CellRow, 1, false, panes[i])
	}
	if err != api.OK {
		panic(fmt.Sprint("no layout of ", panes, ": ", err))
	}
	return api.Window{Id: id, Name: name, Cells: l, Active: active, Last: last}
}

func state(parts ...any) api.State {
	var s api.State
	for _, p := range parts {
		switch p := p.(type) {
		case api.Session:
			s.Sessions = append(s.Sessions, p)
		case api.Window:
			s.Windows = append(s.Windows, p)
		}
	}
	if !delta.Valid(s) {
		panic("the test is wrong: this may not be")
	}
	return s
}

// example is the state of the chapter's examples.
func example() api.State {
	return state(
		session(1, "work", 2, 0, link(0, 1), link(2, 2)),
		session(2, "walk", 0, -1, link(0, 1)),
		window(1, "sh", 1, 0, 1),
		window(2, "edit", 3, 2, 2, 3),
	)
}

// rich has more of everything: a window that is linked at three indices of one
// session, names that begin alike, that are patterns and that are numbers.
func rich() api.State {
	return state(
		session(3, "work", 4, 9, link(1, 5), link(4, 2), link(7, 5), link(9, 8), link(9999, 5)),
		session(4, "work 2", 9, -1, link(9, 8)),
		session(8, "w*", 0, 5, link(0, 9), link(3, 8), link(5, 2)),
		session(10, "7", 6, 2, link(2, 9), link(6, 11)),
		window(2, "log", 4, 3, 3, 4, 1, 12),
		window(5, "sh", 6, 0, 6, 5),
		window(8, "lo", 7, 0, 7),
		window(9, "4", 20, 21, 20, 21, 22),
		window(11, "10000", 30, 0, 30),
	)
}

func place(session, index, window, pane int) api.Place {
	return api.Place{Session: session, Index: index, Window: window, Pane: pane}
}

// What is answered.
type answer struct {
	api.Place
	err api.Errno
}

func (a answer) String() string { return fmt.Sprint(a.Place, ", error ", int(a.err)) }

func found(s api.State, here int, text string, mean int) answer {
	p, err := Find(s, here, text, mean)
	return answer{p, err}
}

// finder asks over one state, by one client.
type finder struct {
	*testing.T
	state api.State
	here  int
}

func (f finder) means(text string, mean int, want api.Place) {
	f.Helper()
	f.answers(text, mean, answer{want, api.OK})
}

func (f finder) fails(text string, mean int, want api.Errno) {
	f.Helper()
	f.answers(text, mean, answer{err: want})
}

func (f finder) answers(text string, mean int, want answer) {
	f.Helper()
	if got := found(f.state, f.here, text, mean); got != want {
		f.Errorf("%q as %d, here %d: %v, and not %v", text, mean, f.here, got, want)
	}
	if model := expect(f.state, f.here, text, mean); model != want {
		f.Errorf("the model is wrong: %q as %d, here %d: %v, and not %v", text, mean, f.here, model, want)
	}
}

func allMeans() []int {
	return []int{api.MeanSession, api.MeanWindow, api.MeanPane, api.MeanIndex}
}

// States and texts by chance.
type maker struct{ *rand.Rand }

func newMaker(seed int64) maker { return maker{rand.New(rand.NewSource(seed))} }

func (m maker) chance(of100 int) bool { return m.Intn(100) < of100 }

func pick[T any](m maker, from ...T) T { return from[m.Intn(len(from))] }

// some gives n different numbers from 1 to stock, rising.
func (m maker) some(n, stock int) []int {
	out := m.Perm(stock)[:n]
	for i := range out {
		out[i]++
	}
	slices.Sort(out)
	return out
}

func (m maker) name() string {
	return pick(m, "w", "wo", "work", "work 2", "walk", "sh", "s", "s*", "s?", "[ws]h", "[", "edit", "0", "1", "2", "3", "12", "00", "9999", "10000", `a\*`, "a*", "x{", "~", strings.Repeat("x", 32))
}

func (m maker) cells(panes []int) []api.Cell {
	l, _ := layout.New(pick(m, 3, 80, 1000), pick(m, 1, 24, 100), panes[0])
	for _, p := range panes[1:] {
		if next, err := layout.Split(l, pick(m, layout.Panes(l)...), pick(m, api.CellRow, api.CellCol), 0, m.chance(50), p); err == api.OK {
			l = next
		}
	}
	return l
}

func (m maker) window(id int, panes []int) api.Window {
	w := api.Window{Id: id, Name: m.name(), Cells: m.cells(panes)}
	there := layout.Panes(w.Cells)
	w.Active, w.Zoom = pick(m, there...), len(there) > 1 && m.chance(30)
	if last := pick(m, there...); last != w.Active && m.chance(70) {
		w.Last = last
	}
	return w
}

func (m maker) link(x *api.Session, window int) {
	index := pick(m, 0, 1, 2, 3, 4, 12, 9998, 9999)
	for slices.ContainsFunc(x.Links, isAt(index)) {
		index = m.Intn(10000)
	}
	x.Links = append(x.Links, link(index, window))
	slices.SortFunc(x.Links, func(a, b api.Link) int { return a.Index - b.Index })
}

// state gives one that may be; the one without anything too.
func (m maker) state() api.State {
	var s api.State
	if m.chance(2) {
		return s
	}
	panes := m.some(32, 40)
	m.Shuffle(32, func(i, j int) { panes[i], panes[j] = panes[j], panes[i] })
	for _, id := range m.some(1+m.Intn(6), 9) {
		n := pick(m, 1, 1, 2, 3, 5)
		s.Windows = append(s.Windows, m.window(id, panes[:n]))
		panes = panes[n:]
	}
	for _, id := range m.some(1+m.Intn(5), 7) {
		name := m.name()
		for slices.ContainsFunc(s.Sessions, func(x api.Session) bool { return x.Name == name }) {
			name = m.name()
		}
		s.Sessions = append(s.Sessions, api.Session{Id: id, Name: name, Last: -1})
	}
	for _, w := range s.Windows {
		m.link(&s.Sessions[m.Intn(len(s.Sessions))], w.Id)
	}
	for i := range s.Sessions {
		m.finish(&s.Sessions[i], s.Windows)
	}
	if !delta.Valid(s) {
		panic("the test is wrong: a state that may not be")
	}
	return s
}

// finish gives a session links, one or more, and marks.
func (m maker) finish(x *api.Session, windows []api.Window) {
	for range pick(m, 0, 0, 1, 2, 3) {
		m.link(x, pick(m, windows...).Id)
	}
	if len(x.Links) == 0 {
		m.link(x, pick(m, windows...).Id)
	}
	x.Current = pick(m, x.Links...).Index
	if last := pick(m, x.Links...).Index; last != x.Current && m.chance(70) {
		x.Last = last
	}
}

// text speaks of a state: mostly it is put together from parts that may mean something there.
func (m maker) text(s api.State) string {
	switch m.Intn(10) {
	case 0:
		return m.sessionPart(s)
	case 1, 2:
		return m.windowPart(s)
	case 3, 4:
		return m.panePart(s)
	case 5, 6:
		return m.windowPart(s) + "." + m.panePart(s)
	case 7:
		return m.sessionPart(s) + ":" + m.windowPart(s)
	case 8:
		return m.sessionPart(s) + ":" + m.windowPart(s) + "." + m.panePart(s)
	}
	return m.odd()
}

func (m maker) odd() string {
	out := ""
	for range m.Intn(6) {
		out += pick(m, "%", "@", "$", "=", "+", "-", "!", "^", "{", "}", ":", ".", "*", "?", "[", "]", `\`, "0", "1", "2", "w", "s", " ", "\n", "\xff", "left-of")
	}
	return out
}

// likeName is a name, a beginning, a pattern that may match one, or something near.
func (m maker) likeName(names []string) string {
	name := m.name()
	if len(names) > 0 && m.chance(80) {
		name = pick(m, names...)
	}
	at := m.Intn(len(name))
	switch m.Intn(6) {
	case 0:
		return name[:at]
	case 1:
		return name[:at] + "*"
	case 2:
		return name[:at] + "?" + name[at+1:]
	case 3:
		return name[:at] + "[" + name[at:at+1] + "]" + name[at+1:]
	case 4:
		return "=" + name[:pick(m, at, len(name))]
	}
	return name
}

func (m maker) sessionPart(s api.State) string {
	var names []string
	for _, x := range s.Sessions {
		names = append(names, x.Name)
	}
	switch m.Intn(5) {
	case 0:
		return ""
	case 1:
		return fmt.Sprint("$", m.Intn(9))
	}
	return m.likeName(names)
}

func (m maker) windowPart(s api.State) string {
	var names []string
	for _, w := range s.Windows {
		names = append(names, w.Name)
	}
	switch m.Intn(8) {
	case 0:
		return ""
	case 1:
		return fmt.Sprint("@", m.Intn(11))
	case 2:
		return pick(m, "^", "$", "!", "^1", "!!", "$1")
	case 3:
		return m.step()
	case 4:
		return m.number()
	}
	return m.likeName(names)
}

func (m maker) panePart(s api.State) string {
	switch m.Intn(6) {
	case 0:
		return ""
	case 1:
		return fmt.Sprint("%", m.Intn(43))
	case 2:
		return pick(m, "!", "{left-of}", "{right-of}", "{up-of}", "{down-of}", "{left-of", "{top}")
	case 3:
		return m.step()
	case 4:
		return fmt.Sprint(m.Intn(6))
	}
	return m.number()
}

func (m maker) number() string {
	return pick(m, "0", "1", "2", "3", "4", "12", "00", "01", "-0", "9998", "9999", "10000", "4611686018427387904", "4611686018427387905")
}

func (m maker) step() string {
	return pick(m, "+", "-") + pick(m, "", "", "0", "1", "2", "3", "7", "01", "x", "+", "1 ", m.number(), m.number())
}

// session is the id of one of a state, or of none.
func (m maker) session(s api.State) int {
	if len(s.Sessions) == 0 || m.chance(20) {
		return pick(m, 0, -1, 8, 99)
	}
	return pick(m, s.Sessions...).Id
}
