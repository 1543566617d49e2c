package exec

import (
	"fmt"
	"slices"
	"strings"
	"testing"

	"mullion/api"
	"mullion/layout"
	"mullion/lex"
	"mullion/octal"
	"mullion/store"
	"mullion/verb"
)

// A desk is a store with a client in the session here, which gives lines.
type desk struct {
	t    *testing.T
	st   *store.Store
	here int
}

func newDesk(t *testing.T, c api.Config) *desk {
	t.Helper()
	st, err := store.New(c)
	if err != api.OK {
		t.Fatalf("New(%v): error %d", c, err)
	}
	return &desk{t: t, st: st}
}

func empty(t *testing.T) *desk { return newDesk(t, api.Config{W: 80, H: 24, Tail: 100}) }

// world has two sessions that share a window, one window of two panes, and the client in the first session.
func world(t *testing.T) *desk {
	t.Helper()
	d := empty(t).ok("new -s work").ok("neww -n edit").ok("splitw -h").ok("new -d -s play -n toy").ok("linkw -d -s work:0 -t play:5")
	d.is("$1 work 0@1 1@2 now 1 last 0", "$2 play 0@3 5@1 now 0 last -1",
		"@1 sh 80x24%1 now 1 last 0", "@2 edit 80x24{40x24%2 39x24%3} now 3 last 2", "@3 toy 80x24%4 now 4 last 0")
	return d
}

func (d *desk) at(here int) *desk { return &desk{d.t, d.st, here} }

func (d *desk) line(line string) api.Answer { return Line(d.st, d.here, api.Line{Text: line}) }

// told is the same of answers that are the same: nil and the empty list are.
func told(a api.Answer) string {
	return fmt.Sprintf("body %q acts %+v here %d error %d about %q", a.Body, a.Acts, a.Here, a.Err, a.About)
}

func goes(session int) api.Act { return api.Act{Kind: api.ActSession, Session: session} }

// ok gives a line that is done, with this body; it asks nothing, but that the client goes where it is then.
func (d *desk) ok(line string, body ...string) *desk {
	d.t.Helper()
	a := d.line(line)
	want := api.Answer{Body: body, Here: a.Here}
	if a.Here != d.here {
		want.Acts = []api.Act{goes(a.Here)}
	}
	if told(a) != told(want) {
		d.t.Fatalf("%s answers %s, and not %s", line, told(a), told(want))
	}
	d.here = a.Here
	return d
}

// asks gives a line that is done and asks this, without a body.
func (d *desk) asks(line string, here int, acts ...api.Act) *desk {
	d.t.Helper()
	a := d.line(line)
	if want := (api.Answer{Here: here, Acts: acts}); told(a) != told(want) {
		d.t.Fatalf("%s answers %s, and not %s", line, told(a), told(want))
	}
	d.here = a.Here
	return d
}

// command reads a line of one command.
func (d *desk) command(line string) api.Command {
	d.t.Helper()
	lists, _, err := lex.Commands(line)
	if err != api.OK || len(lists) != 1 {
		d.t.Fatalf("%q is no command: error %d", line, err)
	}
	c, about, err := verb.Read(lists[0])
	if err != api.OK {
		d.t.Fatalf("%q is no command: error %d about %q", line, err, about)
	}
	return c
}

// fails gives a line of one command that fails, as a command and as a line: nothing has changed.
func (d *desk) fails(line string, err api.Errno, about string) *desk {
	d.t.Helper()
	was := whole(d.st)
	a, want := Do(d.st, d.here, d.command(line)), api.Answer{Here: d.here, Err: err, About: about}
	if told(a) != told(want) {
		d.t.Fatalf("%s, as a command, answers %s, and not %s", line, told(a), told(want))
	}
	a = d.line(line)
	want.Body = []string{Message(err, about)}
	if told(a) != told(want) {
		d.t.Fatalf("%s answers %s, and not %s", line, told(a), told(want))
	}
	if now := whole(d.st); now != was {
		d.t.Fatalf("%s fails, and has changed\n%s\nto\n%s", line, was, now)
	}
	return d
}

// is holds the state against lines as show tells them.
func (d *desk) is(lines ...string) *desk {
	d.t.Helper()
	if got, want := show(d.st.State()), strings.Join(lines, "\n"); got != want {
		d.t.Fatalf("the state is\n%s\nand not\n%s", got, want)
	}
	return d
}

// has holds single lines of show against the state; a line with a ! ahead must not be there.
func (d *desk) has(lines ...string) *desk {
	d.t.Helper()
	all := strings.Split(show(d.st.State()), "\n")
	for _, line := range lines {
		unwanted, not := strings.CutPrefix(line, "!")
		found := slices.ContainsFunc(all, func(l string) bool { return l == line || not && strings.HasPrefix(l, unwanted) })
		if found == not {
			d.t.Fatalf("the state is\n%s\nagainst %s", strings.Join(all, "\n"), line)
		}
	}
	return d
}

func (d *desk) write(pane int, text string) *desk {
	d.t.Helper()
	if _, err := d.st.Write(pane, text); err != api.OK {
		d.t.Fatalf("Write(%d): error %d", pane, err)
	}
	return d
}

// typed holds what was typed into a pane.
func (d *desk) typed(pane int, want string) *desk {
	d.t.Helper()
	if got, ok := d.st.Typed(pane); got != want || !ok {
		d.t.Fatalf("typed into %d is %q, %v, and not %q", pane, got, ok, want)
	}
	return d
}

// show tells a state by a line for each session and each window: indices with their windows, the current and the last
// one; the layout, rows in {} and columns in [], the active and the last pane.
func show(s api.State) string {
	var lines []string
	for _, x := range s.Sessions {
		line := fmt.Sprintf("$%d %s", x.Id, x.Name)
		for _, l := range x.Links {
			line += fmt.Sprintf(" %d@%d", l.Index, l.Window)
		}
		lines = append(lines, line+fmt.Sprintf(" now %d last %d", x.Current, x.Last))
	}
	for _, w := range s.Windows {
		line := fmt.Sprintf("@%d %s %s now %d last %d", w.Id, w.Name, showCells(w.Cells), w.Active, w.Last)
		if w.Zoom {
			line += " zoom"
		}
		lines = append(lines, line)
	}
	return strings.Join(lines, "\n")
}

func showCells(l []api.Cell) string {
	var b strings.Builder
	var open []byte
	for i, c := range l {
		for ; len(open) > c.Depth; open = open[:len(open)-1] {
			b.WriteByte(open[len(open)-1])
		}
		if i > 0 && l[i-1].Depth >= c.Depth {
			b.WriteByte(' ')
		}
		fmt.Fprintf(&b, "%dx%d", c.W, c.H)
		switch c.Kind {
		case api.CellPane:
			fmt.Fprintf(&b, "%%%d", c.Pane)
		case api.CellRow:
			b.WriteByte('{')
			open = append(open, '}')
		case api.CellCol:
			b.WriteByte('[')
			open = append(open, ']')
		}
	}
	slices.Reverse(open)
	b.Write(open)
	return b.String()
}

// panesOf are all panes of a state, by rising id.
func panesOf(s api.State) []int {
	var panes []int
	for _, w := range s.Windows {
		panes = append(panes, layout.Panes(w.Cells)...)
	}
	slices.Sort(panes)
	return panes
}

// outside is all that a store tells of itself but what was typed, and the ids that it would use next.
func outside(st *store.Store) string {
	var b strings.Builder
	fmt.Fprintln(&b, show(st.State()), st.Config())
	for _, pane := range panesOf(st.State()) {
		from, to, ok := st.Extent(pane)
		text, _, err := st.Read(pane, from, api.MaxTail)
		fmt.Fprintf(&b, "%%%d %d %d %v %q %d\n", pane, from, to, ok, text, err)
	}
	next := st.Clone()
	for _, x := range next.State().Sessions {
		next.CloseSession(x.Id)
	}
	p, err := next.NewSession("", "", 0, 0)
	fmt.Fprintln(&b, "next", p, err)
	return b.String()
}

// whole is that, and what was typed.
func whole(st *store.Store) string {
	var b strings.Builder
	for _, pane := range panesOf(st.State()) {
		text, ok := st.Typed(pane)
		fmt.Fprintf(&b, "into %%%d %q %v\n", pane, text, ok)
	}
	return outside(st) + b.String()
}

// filled has as many sessions, windows, panes and links as are asked for; each may be more than there must be.
func filled(t *testing.T, sessions, windows, panes, links int) *desk {
	t.Helper()
	d := newDesk(t, api.Config{W: 1000, H: 1000, Tail: 10})
	for range sessions {
		d.ok("new -d")
	}
	d.here = 1
	for i := sessions; i < windows; i++ {
		d.ok("neww -d -t 1:")
	}
	for i := max(sessions, windows); i < panes; i++ {
		d.ok("selectl -t :0 tiled").ok("splitw -d -t :0.0")
	}
	for i := max(sessions, windows); i < links; i++ {
		d.ok("linkw -d -s :0 -t 1:" + octal.PutNumber(1000+i))
	}
	return d
}
