package server

import (
	"fmt"
	"maps"
	"slices"
	"strings"

	"mullion/api"
	"mullion/delta"
	"mullion/exec"
	"mullion/format"
	"mullion/layout"
	"mullion/store"
	"mullion/wire"
)

// waiting is a line of output. It waits until as many bytes were taken as there are up to the place behind its byte 10.
type waiting struct{ behind, pane, tick int }

type watched struct {
	w    api.Watch
	last []api.Event
}

// guest is the tests' own client: it never lets a byte go of what it was told.
type guest struct {
	limit               int
	all                 []byte
	taken               int
	outs                []waiting
	closed              bool
	session, count, age int
	paused              map[int]bool
	watches             map[string]*watched
	held                string // of what it has sent: what is behind the last line's end
}

// model is the tests' own server: DOC.md's section 'A step of the server', over a store of its own.
type model struct {
	st     *store.Store
	guests map[int]*guest
	tick   int
}

func newModel(c api.Config) (*model, api.Errno) {
	st, err := store.New(c)
	return &model{st: st, guests: map[int]*guest{}}, err
}

func (g *guest) size() int { return len(g.all) - g.taken }

func sizeOf(lines []string) int {
	sum := 0
	for _, line := range lines {
		sum += len(line) + 1
	}
	return sum
}

func (g *guest) lay(lines ...string) {
	for _, line := range lines {
		g.all = append(g.all, line+"\n"...)
	}
}

func (g *guest) exit(reason string) {
	if !g.closed {
		g.lay("%exit " + reason)
		g.closed = true
	}
}

// tell lays lines in as a whole, or ends the client; it answers whether they were laid in.
func (g *guest) tell(lines ...string) bool {
	if g.closed {
		return false
	}
	if g.size()+sizeOf(lines) > g.limit+32768 {
		g.exit("too far behind")
		return false
	}
	g.lay(lines...)
	return true
}

// lineOf is for events that have a line.
func lineOf(e api.Event) string {
	line, err := wire.Encode(e)
	if err != api.OK {
		panic(fmt.Sprintf("%+v has no line", e))
	}
	return line
}

func (g *guest) notify(l ...api.Event) {
	for _, e := range l {
		if g.tell(lineOf(e)) && e.Kind == api.EvPaneClose {
			delete(g.paused, e.Pane)
		}
	}
}

func (g *guest) pause(pane, offset int) {
	if !g.closed && !g.paused[pane] {
		g.paused[pane] = true
		g.tell(fmt.Sprintf("%%pause %%%d %d", pane, offset))
	}
}

func (g *guest) goOn(pane, offset int) {
	if !g.closed && g.paused[pane] {
		delete(g.paused, pane)
		g.tell(fmt.Sprintf("%%continue %%%d %d", pane, offset))
	}
}

func (g *guest) goTo(session int, name string) {
	if !g.closed {
		g.session = session
		g.tell(fmt.Sprintf("%%session-changed $%d %s", session, name))
	}
}

// each are all clients, by rising number.
func (m *model) each() []*guest {
	var l []*guest
	for _, number := range slices.Sorted(maps.Keys(m.guests)) {
		l = append(l, m.guests[number])
	}
	return l
}

func (m *model) sessionName(id int) (string, bool) {
	for _, x := range m.st.State().Sessions {
		if x.Id == id {
			return x.Name, true
		}
	}
	return "", false
}

func (m *model) endOf(pane int) (int, bool) {
	_, end, ok := m.st.Extent(pane)
	return end, ok
}

func (m *model) step(e api.Entry) (string, api.Errno) {
	g := m.guests[e.Client]
	switch e.Kind {
	case api.InAttach:
		return "", m.attach(e.Client, e.N)
	case api.InTick:
		m.pass()
		return "", api.OK
	case api.InOutput:
		return "", m.output(e.Pane, e.Text)
	case api.InDone:
		ahead := m.st.State()
		err := m.st.ClosePane(e.Pane)
		m.differs(ahead)
		m.closedSessions()
		return "", err
	case api.InDetach, api.InInput, api.InDrain:
		if g == nil {
			return "", api.ErrClient
		}
	default:
		return "", api.ErrArg
	}
	switch {
	case e.Kind == api.InDetach:
		delete(m.guests, e.Client)
	case e.Kind == api.InInput && len(e.Text) > 16384:
		return "", api.ErrLong
	case e.Kind == api.InInput:
		m.input(g, e.Text)
	case e.N < 0:
		return "", api.ErrArg
	default:
		return m.drain(e.Client, e.N), api.OK
	}
	return "", api.OK
}

func (m *model) attach(number, limit int) api.Errno {
	if number < 1 || number > 4 || m.guests[number] != nil {
		return api.ErrClient
	}
	if limit < 0 || limit > 65536 {
		return api.ErrArg
	}
	g := &guest{limit: limit, paused: map[int]bool{}, watches: map[string]*watched{}}
	m.guests[number] = g
	g.tell(fmt.Sprintf("%%begin %d 0 0", m.tick), fmt.Sprintf("%%end %d 0 0", m.tick))
	now := m.st.State()
	events, _ := delta.Diff(api.State{}, now)
	for _, e := range events {
		if e.Kind == api.EvPaneAdd {
			e.Offset, _ = m.endOf(e.Pane)
		}
		g.notify(e)
	}
	if len(now.Sessions) > 0 {
		g.goTo(now.Sessions[0].Id, now.Sessions[0].Name)
	}
	return api.OK
}

func (m *model) input(g *guest, text string) {
	g.held += text
	for {
		line, rest, ended := strings.Cut(g.held, "\n")
		if g.closed || !ended {
			return
		}
		g.held = rest
		if len(line) > 8192 {
			m.line(g, api.Line{Long: true})
		} else {
			m.line(g, api.Line{Text: line})
		}
	}
}

// escaped is chapter 1, written once more.
func escaped(text string) string {
	var b strings.Builder
	for i := range len(text) {
		if c := text[i]; c < 32 || c == '\\' {
			fmt.Fprintf(&b, `\%03o`, c)
		} else {
			b.WriteByte(c)
		}
	}
	return b.String()
}

func escapedBody(text string) string {
	if rest, found := strings.CutPrefix(text, "%"); found {
		return `\045` + escaped(rest)
	}
	return escaped(text)
}

func (m *model) line(g *guest, line api.Line) {
	ahead := m.st.State()
	a := exec.Line(m.st, g.session, line)
	g.count++
	lines := []string{fmt.Sprintf("%%begin %d %d 1", m.tick, g.count)}
	for _, text := range a.Body {
		lines = append(lines, escapedBody(text))
	}
	last := map[bool]string{true: "%end", false: "%error"}[a.Err == api.OK]
	g.tell(append(lines, fmt.Sprintf("%s %d %d 1", last, m.tick, g.count))...)
	m.differs(ahead)
	for _, act := range a.Acts {
		m.act(g, act)
	}
	m.closedSessions()
}

func (m *model) run(here int, line api.Line) api.Answer {
	ahead := m.st.State()
	a := exec.Line(m.st, here, line)
	m.differs(ahead)
	if slices.Contains(a.Acts, api.Act{Kind: api.ActKill}) {
		m.killed()
	}
	m.closedSessions()
	return a
}

func (m *model) differs(ahead api.State) {
	events, _ := delta.Diff(ahead, m.st.State())
	for _, g := range m.each() {
		g.notify(events...)
	}
}

func (m *model) killed() {
	for _, g := range m.each() {
		g.exit("server exited")
	}
}

func (m *model) closedSessions() {
	for _, g := range m.each() {
		if _, there := m.sessionName(g.session); g.session != 0 && !there {
			g.exit("session closed")
		}
	}
}

func (m *model) act(g *guest, a api.Act) {
	end, hasPane := m.endOf(a.Pane)
	name, hasSession := m.sessionName(a.Session)
	switch {
	case a.Kind == api.ActSession && hasSession:
		g.goTo(a.Session, name)
	case a.Kind == api.ActDetach:
		g.exit("detached")
	case a.Kind == api.ActKill:
		m.killed()
	case a.Kind == api.ActPause && hasPane:
		g.pause(a.Pane, end)
	case a.Kind == api.ActContinue && hasPane:
		g.goOn(a.Pane, end)
	case a.Kind == api.ActMessage:
		g.tell("%message " + escaped(a.Text))
	case g.closed:
	case a.Kind == api.ActAge:
		g.age = a.N
	case a.Kind == api.ActWatch:
		g.watch(api.Watch{Name: a.Name, What: a.What, Format: a.Text})
	case a.Kind == api.ActUnwatch:
		delete(g.watches, a.Name)
	}
}

func (g *guest) watch(w api.Watch) {
	if g.watches[w.Name] != nil || len(g.watches) < 8 {
		g.watches[w.Name] = &watched{w: w}
	}
}

func (m *model) output(pane int, text string) api.Errno {
	if len(text) > 16384 {
		return api.ErrLong
	}
	begin, err := m.st.Write(pane, text)
	if err != api.OK {
		return err
	}
	for _, g := range m.each() {
		g.output(pane, m.tick, begin, text)
	}
	return api.OK
}

func (g *guest) output(pane, tick, begin int, text string) {
	if g.closed || g.paused[pane] || text == "" {
		return
	}
	var lines []string
	for i := 0; i < len(text); i += 256 {
		lines = append(lines, lineOf(api.Event{Kind: api.EvOutput, Pane: pane, Text: text[i:min(i+256, len(text))]}))
	}
	if g.size()+sizeOf(lines) > g.limit {
		g.pause(pane, begin)
		return
	}
	for _, line := range lines {
		g.lay(line)
		g.outs = append(g.outs, waiting{len(g.all), pane, tick})
	}
}

func (m *model) pass() {
	m.tick++
	for _, g := range m.each() {
		for _, pane := range g.late(m.tick) {
			if end, there := m.endOf(pane); there {
				g.pause(pane, end)
			}
		}
		for _, name := range slices.Sorted(maps.Keys(g.watches)) {
			if !g.closed {
				m.say(g, g.watches[name])
			}
		}
	}
}

// late are the panes of which a line waits since more than age ticks.
func (g *guest) late(tick int) []int {
	var late []int
	for _, o := range g.outs {
		if o.behind > g.taken && g.age > 0 && tick-o.tick > g.age && !g.paused[o.pane] && !g.closed {
			late = append(late, o.pane)
		}
	}
	slices.Sort(late)
	return slices.Compact(late)
}

// say tells what a watch says, but for what it said at the tick before.
func (m *model) say(g *guest, w *watched) {
	var now []api.Event
	for _, p := range watchedPlaces(m.st.State(), g.session, w.w.What) {
		text, err := format.Expand(w.w.Format, exec.Vars(m.st, p))
		if err != api.OK {
			text = ""
		}
		e := api.Event{Kind: api.EvWatch, Name: w.w.Name, Session: p.Session, Window: p.Window, Index: p.Index, Pane: p.Pane, Text: text}
		if !slices.Contains(w.last, e) {
			g.notify(e)
		}
		now = append(now, e)
	}
	w.last = now
}

// watchedPlaces writes down every place of the session, a pane at an index each, and strikes out those that are not meant.
func watchedPlaces(s api.State, session int, what string) []api.Place {
	var rows []api.Place
	current, active := -1, map[int]int{}
	for _, x := range s.Sessions {
		for _, l := range x.Links {
			for _, w := range s.Windows {
				for _, pane := range layout.Panes(w.Cells) {
					if x.Id == session && w.Id == l.Window {
						rows = append(rows, api.Place{Session: session, Index: l.Index, Window: w.Id, Pane: pane})
						current, active[w.Id] = x.Current, w.Active
					}
				}
			}
		}
	}
	least := map[int]int{}
	for _, p := range slices.Backward(rows) {
		least[p.Window] = p.Index
	}
	return slices.DeleteFunc(rows, func(p api.Place) bool {
		switch first := p.Index == least[p.Window]; what {
		case "":
			return p.Index != current || p.Pane != active[p.Window]
		case "@*", fmt.Sprint("@", p.Window):
			return !first || p.Pane != active[p.Window]
		case "%*", fmt.Sprint("%", p.Pane):
			return !first
		}
		return true
	})
}

func (m *model) drain(number, n int) string {
	g := m.guests[number]
	n = min(n, g.size())
	g.taken += n
	if g.closed && g.size() == 0 {
		delete(m.guests, number)
	}
	return string(g.all[g.taken-n : g.taken])
}

func (m *model) peers() []api.Peer {
	var l []api.Peer
	for _, number := range slices.Sorted(maps.Keys(m.guests)) {
		g := m.guests[number]
		p := api.Peer{Client: number, Session: g.session, Limit: g.limit, Age: g.age, Size: g.size(), Count: g.count, Closed: g.closed}
		p.Paused = slices.Sorted(maps.Keys(g.paused))
		for _, name := range slices.Sorted(maps.Keys(g.watches)) {
			p.Watches = append(p.Watches, g.watches[name].w)
		}
		l = append(l, p)
	}
	return l
}
