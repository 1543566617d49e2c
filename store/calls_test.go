package store

import (
	"fmt"
	"math"
	"math/rand"
	"slices"
	"strings"
	"testing"

	"mullion/api"
	"mullion/layout"
)

// A call is one call on a store, with all that may be handed in.
type call struct {
	name        string
	a, b, c, d  int
	text, other string
	yes, also   bool
	cells       []api.Cell
}

// An answer is all that any call may answer.
type answer struct {
	place api.Place
	n, m  int
	text  string
	ok    bool
	err   api.Errno
}

func (c call) String() string {
	return fmt.Sprintf("%s(%d %d %d %d %.20q %.20q %v %v %v)", c.name, c.a, c.b, c.c, c.d, c.text, c.other, c.yes, c.also, c.cells)
}

func (c call) on(s *Store) (a answer) {
	switch c.name {
	case "Extent":
		a.n, a.m, a.ok = s.Extent(c.a)
	case "Read":
		a.text, a.n, a.err = s.Read(c.a, c.b, c.c)
	case "Write":
		a.n, a.err = s.Write(c.a, c.text)
	case "Lines":
		a.text, a.err = s.Lines(c.a, c.b)
	case "Type":
		a.err = s.Type(c.a, c.text)
	case "Typed":
		a.text, a.ok = s.Typed(c.a)
	case "NewSession":
		a.place, a.err = s.NewSession(c.text, c.other, c.a, c.b)
	case "CloseSession":
		a.err = s.CloseSession(c.a)
	case "RenameSession":
		a.err = s.RenameSession(c.a, c.text)
	case "NewWindow":
		a.place, a.err = s.NewWindow(c.a, c.b, c.text, c.yes)
	case "CloseWindow":
		a.err = s.CloseWindow(c.a)
	case "RenameWindow":
		a.err = s.RenameWindow(c.a, c.text)
	case "Link":
		a.n, a.err = s.Link(c.a, c.b, c.c, c.yes)
	case "Unlink":
		a.err = s.Unlink(c.a, c.b)
	case "Move":
		a.n, a.err = s.Move(c.a, c.b, c.c, c.d)
	case "Exchange":
		a.err = s.Exchange(c.a, c.b, c.c, c.d)
	case "Choose":
		a.err = s.Choose(c.a, c.b)
	default:
		return c.onPanes(s)
	}
	return a
}

func (c call) onPanes(s *Store) (a answer) {
	switch c.name {
	case "Split":
		a.n, a.err = s.Split(c.a, c.b, c.c, c.yes, c.also)
	case "ClosePane":
		a.err = s.ClosePane(c.a)
	case "ChoosePane":
		a.err = s.ChoosePane(c.a)
	case "Push":
		a.err = s.Push(c.a, c.b, c.c)
	case "Set":
		a.err = s.Set(c.a, c.b, c.c)
	case "Resize":
		a.err = s.Resize(c.a, c.b, c.c)
	case "Zoom":
		a.err = s.Zoom(c.a)
	case "Swap":
		a.err = s.Swap(c.a, c.b)
	case "Lay":
		a.err = s.Lay(c.a, c.cells)
	case "Arrange":
		a.err = s.Arrange(c.a, c.b, c.c)
	case "Break":
		a.place, a.err = s.Break(c.a, c.b, c.c, c.text, c.yes)
	case "Join":
		a.err = s.Join(c.a, c.b, c.c, c.d, c.yes, c.also)
	default:
		panic("no call of this name: " + c.name)
	}
	return a
}

func (c call) inBook(b *book) (a answer) {
	switch c.name {
	case "Extent":
		a.n, a.m, a.ok = b.extent(c.a)
	case "Read":
		a.text, a.n, a.err = b.read(c.a, c.b, c.c)
	case "Write":
		a.n, a.err = b.write(c.a, c.text)
	case "Lines":
		a.text, a.err = b.lines(c.a, c.b)
	case "Type":
		a.err = b.typeText(c.a, c.text)
	case "Typed":
		a.text, a.ok = b.typedText(c.a)
	case "NewSession":
		a.place, a.err = b.newSession(c.text, c.other, c.a, c.b)
	case "CloseSession":
		a.err = b.closeSession(c.a)
	case "RenameSession":
		a.err = b.renameSession(c.a, c.text)
	case "NewWindow":
		a.place, a.err = b.newWindow(c.a, c.b, c.text, c.yes)
	case "CloseWindow":
		a.err = b.closeWindow(c.a)
	case "RenameWindow":
		a.err = b.renameWindow(c.a, c.text)
	case "Link":
		a.n, a.err = b.link(c.a, c.b, c.c, c.yes)
	case "Unlink":
		a.err = b.unlink(c.a, c.b)
	case "Move":
		a.n, a.err = b.move(c.a, c.b, c.c, c.d)
	case "Exchange":
		a.err = b.exchange(c.a, c.b, c.c, c.d)
	case "Choose":
		a.err = b.choose(c.a, c.b)
	default:
		return c.inBookPanes(b)
	}
	return a
}

func (c call) inBookPanes(b *book) (a answer) {
	switch c.name {
	case "Split":
		a.n, a.err = b.split(c.a, c.b, c.c, c.yes, c.also)
	case "ClosePane":
		a.err = b.closePane(c.a)
	case "ChoosePane":
		a.err = b.choosePane(c.a)
	case "Push":
		a.err = b.push(c.a, c.b, c.c)
	case "Set":
		a.err = b.set(c.a, c.b, c.c)
	case "Resize":
		a.err = b.resize(c.a, c.b, c.c)
	case "Zoom":
		a.err = b.zoom(c.a)
	case "Swap":
		a.err = b.swap(c.a, c.b)
	case "Lay":
		a.err = b.lay(c.a, c.cells)
	case "Arrange":
		a.err = b.arrange(c.a, c.b, c.c)
	case "Break":
		a.place, a.err = b.breakPane(c.a, c.b, c.c, c.text, c.yes)
	case "Join":
		a.err = b.join(c.a, c.b, c.c, c.d, c.yes, c.also)
	}
	return a
}

// callNames are all calls but New, Clone, State and Config; the ones that make things come more than once, so that a
// long run does not stay empty.
func callNames() []string {
	return []string{"Extent", "Read", "Write", "Write", "Lines", "Type", "Typed",
		"NewSession", "NewSession", "NewSession", "CloseSession", "RenameSession",
		"NewWindow", "NewWindow", "NewWindow", "CloseWindow", "RenameWindow", "Link", "Link", "Unlink", "Move", "Move", "Exchange", "Choose", "Choose",
		"Split", "Split", "Split", "Split", "ClosePane", "ChoosePane", "ChoosePane", "Push", "Set", "Resize", "Zoom", "Zoom", "Zoom", "Swap", "Swap",
		"Lay", "Arrange", "Break", "Break", "Join", "Join", "Join"}
}

// A dealer hands out calls by chance, most of them with arguments that fit what a book holds.
type dealer struct {
	r      *rand.Rand
	b      *book
	closes int // of a hundred calls that close something, as many are dealt
}

func (d *dealer) pick(of ...int) int { return of[d.r.Intn(len(of))] }

func (d *dealer) chance(of100 int) bool { return d.r.Intn(100) < of100 }

func (d *dealer) odd() int {
	return d.pick(math.MinInt, -api.MaxNumber, -2, -1, 0, 33, 10000, api.MaxNumber, api.MaxNumber+1, math.MaxInt)
}

func (d *dealer) session() int {
	if len(d.b.sessions) == 0 || d.chance(3) {
		return d.pick(d.odd(), d.b.madeSessions, d.b.madeSessions+1)
	}
	return d.b.sessions[d.r.Intn(len(d.b.sessions))].Id
}

func (d *dealer) window() int {
	if len(d.b.windows) == 0 || d.chance(3) {
		return d.pick(d.odd(), d.b.madeWindows, d.b.madeWindows+1)
	}
	return d.b.windows[d.r.Intn(len(d.b.windows))].Id
}

func (d *dealer) pane() int {
	if len(d.b.written) == 0 || d.chance(3) {
		return d.pick(d.odd(), d.b.madePanes, d.b.madePanes+1)
	}
	var ids []int
	for _, w := range d.b.windows {
		ids = append(ids, layout.Panes(w.Cells)...)
	}
	return ids[d.r.Intn(len(ids))]
}

// linkedAt is an index of a session, if it has links; the current and the last one come often.
func (d *dealer) linkedAt(session int) int {
	x := d.b.session(session)
	if len(x.Links) == 0 || d.chance(5) {
		return d.index()
	}
	return d.pick(x.Current, x.Last, x.Links[d.r.Intn(len(x.Links))].Index)
}

func (d *dealer) index() int {
	return d.pick(-1, -1, -1, 0, 1, 2, 3, d.r.Intn(12), d.r.Intn(12), d.r.Intn(10000), 9998, 9999, d.odd())
}

func (d *dealer) text() string {
	names := []string{"", "", "", "work", "a", "b", "two words", strings.Repeat("n", 32), strings.Repeat("n", 33), "1", "2", "12", "a:b", " x", "x ", "-", "é"}
	if d.chance(20) {
		return fmt.Sprint(d.b.madeSessions + d.r.Intn(3))
	}
	return names[d.r.Intn(len(names))]
}

func (d *dealer) bytes() string {
	return strings.Repeat([]string{"", "a", "line\n", "\n", "x\x00\xff"}[d.r.Intn(5)], d.r.Intn(9))
}

func (d *dealer) side() int { return d.pick(0, 0, 0, 1, 5, 40, 80, 200, 999, 1000, 1001, -1) }

func (d *dealer) kind() int { return d.pick(2, 2, 2, 2, 3, 3, 3, 3, 1, 0, 4) }

func (d *dealer) size() int { return d.pick(0, 0, 0, -3, 1, 2, 3, 10, 100, d.odd()) }

func (d *dealer) flag() bool { return d.chance(50) }

// cells are a layout that may fit a window: that of another one, its own with other panes or arranged anew, or spoilt.
func (d *dealer) cells(window int) []api.Cell {
	l := slices.Clone(d.b.window(window).Cells)
	switch {
	case len(l) == 0:
		return nil
	case d.chance(20):
		l = slices.Clone(d.b.windows[d.r.Intn(len(d.b.windows))].Cells)
	case d.chance(60):
		if anew, err := layout.Arrange(l, 1+d.r.Intn(5), d.size()); err == api.OK {
			l = anew
		}
	}
	if d.chance(10) {
		if other, err := layout.Resize(l, l[0].W+d.r.Intn(2), l[0].H+d.r.Intn(2)); err == api.OK {
			l = other
		}
	}
	for i := range l {
		if l[i].Kind == api.CellPane {
			l[i].Pane = 100 + i
		}
	}
	if d.chance(10) {
		l[d.r.Intn(len(l))].W += d.pick(-1, 1)
	}
	if d.chance(5) {
		l = l[:d.r.Intn(len(l))]
	}
	return l
}

func (d *dealer) deal() call {
	names := callNames()
	name := names[d.r.Intn(len(names))]
	if (strings.HasPrefix(name, "Close") || name == "Unlink") && !d.chance(d.closes) {
		name = "ChoosePane"
	}
	return d.dealOf(name)
}

func (d *dealer) dealOf(name string) call {
	c := call{name: name, yes: d.flag(), also: d.flag()}
	switch name {
	case "Read":
		c.a = d.pane()
		start, end, _ := d.b.extent(c.a)
		c.b, c.c = d.pick(start-1, start, start+1, end-1, end, end+1, d.odd()), d.pick(0, 1, 3, 100, d.odd())
	case "Write", "Type":
		c.a, c.text = d.pane(), d.bytes()
	case "Lines":
		c.a, c.b = d.pane(), d.size()
	case "NewSession":
		c.text, c.other, c.a, c.b = d.text(), d.text(), d.side(), d.side()
	case "CloseSession", "RenameSession":
		c.a, c.text = d.session(), d.text()
	case "NewWindow":
		c.a, c.b, c.text = d.session(), d.index(), d.text()
	case "CloseWindow", "RenameWindow":
		c.a, c.text = d.window(), d.text()
	case "Link":
		c.a, c.b, c.c = d.session(), d.index(), d.window()
	case "Unlink", "Choose":
		c.a = d.session()
		c.b = d.linkedAt(c.a)
	case "Move", "Exchange":
		c.a, c.c = d.session(), d.session()
		c.b, c.d = d.linkedAt(c.a), d.linkedAt(c.c)
		if name == "Move" && d.chance(70) {
			c.d = d.index()
		}
	case "Split", "Push", "Set":
		c.a, c.b, c.c = d.pane(), d.kind(), d.size()
		if name == "Push" && d.chance(50) {
			c.c = d.r.Intn(21) - 10
		}
	case "Resize":
		c.a, c.b, c.c = d.window(), d.pick(d.side(), d.r.Intn(200)), d.pick(d.side(), d.r.Intn(100))
	case "Lay":
		c.a = d.window()
		c.cells = d.cells(c.a)
	case "Arrange":
		c.a, c.b, c.c = d.window(), d.pick(0, 1, 2, 3, 4, 5, 6), d.size()
	case "Break":
		c.a, c.b, c.c, c.text = d.pane(), d.session(), d.index(), d.text()
	case "Swap", "Join":
		c.a, c.b, c.c, c.d = d.pane(), d.pane(), d.kind(), d.size()
	default:
		c.a = d.pane()
	}
	return c
}

// A desk is a store, with a book beside it that must always say the same.
type desk struct {
	t *testing.T
	s *Store
	b *book
}

func newDesk(t *testing.T, c api.Config) *desk {
	t.Helper()
	s, err := New(c)
	if err != api.OK {
		t.Fatalf("New(%v): error %d", c, err)
	}
	return &desk{t, s, newBook(c)}
}

// do makes a call on both; what they answer and what they are then must be the same.
func (d *desk) do(c call) answer {
	d.t.Helper()
	before := d.b.state()
	want := c.inBook(d.b)
	got := c.on(d.s)
	if got != want {
		d.t.Fatalf("%v over\n%s\nanswers %+v; want %+v", c, show(before), got, want)
	}
	if now := d.s.State(); !sameState(now, d.b.state()) {
		d.t.Fatalf("%v over\n%s\nleads to\n%s\nwant\n%s", c, show(before), show(now), show(d.b.state()))
	}
	return got
}

func sameState(a, b api.State) bool {
	return slices.EqualFunc(a.Sessions, b.Sessions, func(x, y api.Session) bool {
		return x.Id == y.Id && x.Name == y.Name && slices.Equal(x.Links, y.Links) && x.Current == y.Current && x.Last == y.Last
	}) && slices.EqualFunc(a.Windows, b.Windows, func(x, y api.Window) bool {
		return x.Id == y.Id && x.Name == y.Name && slices.Equal(x.Cells, y.Cells) && x.Active == y.Active && x.Last == y.Last && x.Zoom == y.Zoom
	})
}

// must makes a call that is to be OK.
func (d *desk) must(c call) answer {
	d.t.Helper()
	a := d.do(c)
	if a.err != api.OK {
		d.t.Fatalf("%v: error %d", c, a.err)
	}
	return a
}

// fails makes a call that is to answer an error, beside which all is zero and by which nothing changes.
func (d *desk) fails(c call, want api.Errno) {
	d.t.Helper()
	before := whole(d.s)
	if a := d.do(c); a != (answer{err: want}) {
		d.t.Fatalf("%v answers %+v; want the error %d", c, a, want)
	}
	if behind := whole(d.s); behind != before {
		d.t.Fatalf("%v: an error that has changed\n%s\nto\n%s", c, before, behind)
	}
}

// is holds the state against lines as show tells them.
func (d *desk) is(lines ...string) {
	d.t.Helper()
	if got, want := show(d.s.State()), strings.Join(lines, "\n"); got != want {
		d.t.Fatalf("the state is\n%s\nwant\n%s", got, want)
	}
}

func (d *desk) clone() *desk { return &desk{d.t, d.s.Clone(), d.b.copy()} }

// show tells a state by a line for each session and each window: indices with their windows, the current and the last
// one; the layout, rows in {} and columns in [], the active and the last pane.
func show(s api.State) string {
	var lines []string
	for _, x := range s.Sessions {
		line := fmt.Sprintf("$%d %s", x.Id, x.Name)
		for _, l := range x.Links {
			line += fmt.Sprintf(" %d@%d", l.Index, l.Window)
		}
		lines = append(lines, line+fmt.Sprintf(" now %d last %d", x.Current, x.Last))
	}
	for _, w := range s.Windows {
		line := fmt.Sprintf("@%d %s %s now %d last %d", w.Id, w.Name, showCells(w.Cells), w.Active, w.Last)
		if w.Zoom {
			line += " zoom"
		}
		lines = append(lines, line)
	}
	return strings.Join(lines, "\n")
}

func showCells(l []api.Cell) string {
	if layout.Check(l) != api.OK {
		return fmt.Sprint("no layout: ", l)
	}
	var b strings.Builder
	var open []byte
	for i, c := range l {
		for ; len(open) > c.Depth; open = open[:len(open)-1] {
			b.WriteByte(open[len(open)-1])
		}
		if i > 0 && l[i-1].Depth >= c.Depth {
			b.WriteByte(' ')
		}
		fmt.Fprintf(&b, "%dx%d", c.W, c.H)
		switch c.Kind {
		case api.CellPane:
			fmt.Fprintf(&b, "%%%d", c.Pane)
		case api.CellRow:
			b.WriteByte('{')
			open = append(open, '}')
		case api.CellCol:
			b.WriteByte('[')
			open = append(open, ']')
		}
	}
	slices.Reverse(open)
	b.Write(open)
	return b.String()
}

// whole is all that can be asked of a store without changing it, and the ids that it would use next.
func whole(s *Store) string {
	var b strings.Builder
	fmt.Fprintln(&b, show(s.State()), s.Config(), s.sessions.next(), s.windows.next(), s.panes.next())
	for pane := -1; pane <= s.panes.next(); pane++ {
		from, to, ok := s.Extent(pane)
		text, next, err := s.Read(pane, from, api.MaxTail)
		last, noLast := s.Lines(pane, 1)
		keys, typed := s.Typed(pane)
		if ok {
			fmt.Fprintln(&b, pane, from, to, text, next, err, last, noLast, keys, typed)
		} else if err != api.ErrNoPane || noLast != api.ErrNoPane || typed || text+last+keys != "" || from+to+next != 0 {
			fmt.Fprintln(&b, "a pane that is none tells something:", pane)
		}
	}
	return b.String()
}
