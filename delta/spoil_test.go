package delta

import (
	"math"
	"slices"
	"strings"

	"mullion/api"
	"mullion/plan"
)

// What may not be, by chance: a state is spoilt in one place after the other.

func (m *maker) number() int {
	return pick(m, 1, 2, 3, 4, 5, 6, 0, -1, -2, 9999, 10000, api.MaxNumber, api.MaxNumber+1, math.MinInt, math.MaxInt)
}

func (m *maker) text() string {
	return pick(m, m.name(), m.name(), m.name(), "", "a:b", "a.b", "-x", " x", "x ", strings.Repeat("x", 33), "\n", "\xff", "{")
}

func (m *maker) spoil(s *api.State) {
	if len(s.Sessions) == 0 || len(s.Windows) == 0 {
		s.Sessions = append(s.Sessions, session(m.number(), m.text(), m.number()))
		s.Windows = append(s.Windows, api.Window{Id: m.number(), Name: m.text(), Cells: side(1)})
		return
	}
	x, w := &s.Sessions[m.r.Intn(len(s.Sessions))], &s.Windows[m.r.Intn(len(s.Windows))]
	switch m.r.Intn(16) {
	case 0:
		x.Id = m.number()
	case 1:
		x.Name = m.text()
	case 2:
		w.Id = m.number()
	case 3:
		w.Name = m.text()
	case 4:
		w.Active = m.number()
	case 5:
		w.Last = m.number()
	case 6:
		w.Zoom = !w.Zoom
	case 7:
		x.Current = m.number()
	case 8:
		x.Last = m.number()
	case 9:
		m.spoilCells(w)
	case 10:
		w.Cells = slices.Clone(s.Windows[m.r.Intn(len(s.Windows))].Cells)
	case 11, 12:
		m.spoilLinks(x)
	default:
		m.spoilOrder(s)
	}
}

func (m *maker) spoilCells(w *api.Window) {
	if len(w.Cells) == 0 || m.chance(20) {
		w.Cells = nil
		return
	}
	c := &w.Cells[m.r.Intn(len(w.Cells))]
	*pick(m, &c.Depth, &c.Kind, &c.X, &c.Y, &c.W, &c.H, &c.Pane) = m.number()
}

func (m *maker) spoilLinks(x *api.Session) {
	if len(x.Links) == 0 || m.chance(10) {
		x.Links = nil
		return
	}
	l := &x.Links[m.r.Intn(len(x.Links))]
	switch m.r.Intn(4) {
	case 0:
		l.Index = m.number()
	case 1:
		l.Window = m.number()
	case 2:
		x.Links = append(x.Links, link0(l.Index, m.number()))
	case 3:
		m.r.Shuffle(len(x.Links), func(i, j int) { x.Links[i], x.Links[j] = x.Links[j], x.Links[i] })
	}
}

// spoilOrder lets the lists not rise, or hold one of them twice.
func (m *maker) spoilOrder(s *api.State) {
	switch m.r.Intn(4) {
	case 0:
		m.r.Shuffle(len(s.Sessions), func(i, j int) { s.Sessions[i], s.Sessions[j] = s.Sessions[j], s.Sessions[i] })
	case 1:
		m.r.Shuffle(len(s.Windows), func(i, j int) { s.Windows[i], s.Windows[j] = s.Windows[j], s.Windows[i] })
	case 2:
		x := twin(*s).Sessions[m.r.Intn(len(s.Sessions))]
		x.Name = m.name()
		s.Sessions = append(s.Sessions, x)
	case 3:
		w := twin(*s).Windows[m.r.Intn(len(s.Windows))]
		w.Name = m.name()
		s.Windows = append(s.Windows, w)
	}
}

// anyState gives a state that may be, or, mostly, one that may not.
func (m *maker) anyState() api.State {
	s := m.state()
	for range m.r.Intn(8) {
		m.spoil(&s)
	}
	return s
}

// anyEvent gives an event of any kind, mostly about what the state has.
func (m *maker) anyEvent(s api.State) api.Event {
	e := api.Event{
		Kind: m.r.Intn(api.EvBad+3) - 1, Session: m.number(), Window: m.number(), Pane: m.number(), Index: m.number(),
		Offset: m.number(), Tick: m.number(), Number: m.number(), Flag: m.number(),
		Name: m.text(), Text: m.text(), Zoom: m.chance(50),
	}
	if len(s.Sessions) > 0 && m.chance(80) {
		x := pick(m, s.Sessions...)
		e.Session = x.Id
		if len(x.Links) > 0 && m.chance(60) {
			e.Index = pick(m, x.Links...).Index
		}
	}
	e.Layout = pick(m, "", "b25e,80x24,0,0,1", "b25f,80x24,0,0,1", "nothing", strings.Repeat("0", 2049))
	if len(s.Windows) > 0 && m.chance(80) {
		w := pick(m, s.Windows...)
		e.Window = w.Id
		if len(w.Cells) > 0 && m.chance(80) {
			e.Pane = pick(m, w.Cells...).Pane
		}
		e.Layout, _ = plan.Text(pick(m, s.Windows...).Cells)
	}
	e.Visible = m.visibleFor(e.Layout)
	return e
}

// visibleFor gives a visible plan that fits a layout's, most of the time.
func (m *maker) visibleFor(text string) string {
	l, err := plan.Parse(text)
	if err != api.OK || m.chance(40) {
		return text
	}
	one := []api.Cell{{Kind: api.CellPane, W: l[0].W, H: l[0].H, Pane: pick(m, l...).Pane}}
	switch m.r.Intn(8) {
	case 0:
		one[0].W = m.number()
	case 1:
		one[0].H = m.number()
	case 2:
		one[0].Pane = m.number()
	}
	text, _ = plan.Text(one)
	return text
}
