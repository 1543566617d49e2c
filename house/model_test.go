package house

import (
	"fmt"
	"slices"
	"strings"

	"mullion/api"
	"mullion/delta"
	"mullion/mirror"
	"mullion/plan"
	"mullion/server"
	"mullion/wire"
)

// The tests' own house: one step after the other, without goroutines. It keeps
// what was drained to each client, and asks a mirror at the very end that is
// fed all of it at once.

// story is all that was drained to a client, from its attaching on.
type story struct {
	client, entry int
	told          string
	last          bool // nobody has had its number behind it
}

// model is a run that was played.
type model struct {
	s       *server.Server
	out     strings.Builder
	stories []*story
	written map[int]string // all that was ever written into each pane
}

func (m *model) tell(format string, a ...any) { fmt.Fprintf(&m.out, format+"\n", a...) }

// owner is the story of whoever had a number last; nil, if nobody had it.
func (m *model) owner(client int) *story {
	for _, y := range slices.Backward(m.stories) {
		if y.client == client {
			return y
		}
	}
	return nil
}

func (m *model) step(i int, e api.Entry) {
	text, err := m.s.Step(e)
	switch {
	case err != api.OK:
		m.tell("%d: error %d", i, err)
		return
	case e.Kind == api.InDrain && len(text) > 0:
		m.owner(e.Client).told += text
		m.tell("%d: ok, %d bytes", i, len(text))
		return
	case e.Kind == api.InAttach:
		if former := m.owner(e.Client); former != nil {
			former.last = false
		}
		m.stories = append(m.stories, &story{client: e.Client, entry: i, last: true})
	case e.Kind == api.InOutput:
		m.written[e.Pane] += e.Text
	}
	m.tell("%d: ok", i)
}

// runOf plays a run of at most MaxEntries entries.
func runOf(c api.Config, l []api.Entry) (*model, api.Errno) {
	s, err := server.New(c)
	if err != api.OK {
		return nil, err
	}
	m := &model{s: s, written: map[int]string{}}
	for i, e := range l {
		m.step(i, e)
	}
	return m, api.OK
}

// played is what the chapter says of a run.
func played(c api.Config, l []api.Entry) (string, api.Errno) {
	if len(l) > api.MaxEntries {
		return "", api.ErrFull
	}
	m, err := runOf(c, l)
	if err != api.OK {
		return "", err
	}
	now := m.s.State()
	m.tell("server, tick %d", m.s.Tick())
	m.state(now)
	for _, pane := range allPanes(now) {
		from, to, _ := m.s.Extent(pane)
		m.tell("  pane %%%d %d..%d typed %s", pane, from, to, escaped(m.s.Typed(pane)))
	}
	for _, y := range m.stories {
		m.tell("client %d from entry %d", y.client, y.entry)
		m.mirror(y)
	}
	return m.out.String(), api.OK
}

func allPanes(s api.State) []int {
	var l []int
	for _, w := range s.Windows {
		for _, c := range w.Cells {
			if c.Pane != 0 {
				l = append(l, c.Pane)
			}
		}
	}
	slices.Sort(l)
	return l
}

// dash is a number with its mark; a dash, if it is the one that means none.
func dash(mark string, n, none int) string {
	if n == none {
		return "-"
	}
	return fmt.Sprint(mark, n)
}

func (m *model) state(s api.State) {
	for _, x := range s.Sessions {
		links := ""
		for _, k := range x.Links {
			links += fmt.Sprintf(" %d:@%d", k.Index, k.Window)
		}
		m.tell("  session $%d %s current %s last %s links%s", x.Id, x.Name, dash("", x.Current, -1), dash("", x.Last, -1), links)
	}
	for _, w := range s.Windows {
		text, err := plan.Text(w.Cells)
		if err != api.OK {
			text = "-"
		}
		m.tell("  window @%d %s active %s last %s %s %s", w.Id, w.Name, dash("%", w.Active, 0), dash("%", w.Last, 0), map[bool]string{true: "zoomed", false: "whole"}[w.Zoom], text)
	}
}

func (m *model) mirror(y *story) {
	r := mirror.New()
	r.Feed(y.told)
	m.tell("  in %s", dash("$", r.Session(), 0))
	m.state(r.State())
	for _, f := range r.Feeds() {
		line := fmt.Sprintf("  feed %%%d %d..%d", f.Pane, f.Start, f.End)
		if f.Paused {
			line += " paused"
		}
		for _, g := range f.Gaps {
			line += fmt.Sprintf(" gap %d..%d", g.From, g.To)
		}
		m.tell("%s bytes %s", line, escaped(f.Text))
	}
	for _, reply := range r.Replies() {
		m.tell("  reply %d at %d %s", reply.Number, reply.Tick, map[bool]string{true: "good", false: "bad"}[reply.Good])
		for _, text := range reply.Body {
			m.tell("    | %s", escaped(text))
		}
	}
	for _, text := range r.Messages() {
		m.tell("  message %s", escaped(text))
	}
	for _, e := range r.Watched() {
		line, _ := wire.Encode(e)
		m.tell("  watch %s", line)
	}
	if n := len(r.Rest()); n > 0 {
		m.tell("  rest %d bytes", n)
	}
	if reason, ended := r.Ended(); ended {
		m.tell("  ended %s", escaped(reason))
	}
	if n, broken := r.Broken(); broken {
		m.tell("  broken at %d", n)
	}
	m.tell("  %s", m.verdict(y, r))
}

func (m *model) verdict(y *story, r *mirror.Mirror) string {
	for _, p := range m.s.Peers() {
		switch {
		case p.Client != y.client || !y.last:
		case p.Size != 0:
			return "behind"
		case m.agrees(p, r):
			return "agrees"
		default:
			return "differs"
		}
	}
	return "gone"
}

func (m *model) agrees(p api.Peer, r *mirror.Mirror) bool {
	now := m.s.State()
	if _, broken := r.Broken(); broken || r.Session() != p.Session {
		return false
	}
	if fmt.Sprint(r.State()) != fmt.Sprint(delta.Plain(now)) {
		return false
	}
	var panes []int
	for _, f := range r.Feeds() {
		panes = append(panes, f.Pane)
		_, end, _ := m.s.Extent(f.Pane)
		if paused := slices.Contains(p.Paused, f.Pane); paused != f.Paused || f.End > end || !paused && f.End < end {
			return false
		}
	}
	return slices.Equal(panes, allPanes(now))
}
