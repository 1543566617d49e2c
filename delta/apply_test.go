package delta

import (
	"fmt"
	"math"
	"slices"
	"strings"
	"testing"

	"mullion/api"
	"mullion/plan"
)

// applied is what must come out: the state with a change.
func applied(t *testing.T, s api.State, e api.Event, change func(s *api.State)) {
	t.Helper()
	want := twin(s)
	change(&want)
	got, err := Apply(s, e)
	if err != api.OK {
		t.Errorf("Apply of %+v answers error %d, over\n%s", e, err, show(s))
		return
	}
	if !same(got, want) {
		t.Errorf("behind %+v there is\n%swant\n%s", e, show(got), show(want))
	}
}

func refused(t *testing.T, s api.State, e api.Event) {
	t.Helper()
	if got, err := Apply(s, e); err != api.ErrApply || len(got.Sessions)+len(got.Windows) != 0 {
		t.Errorf("Apply of %+v answers error %d and\n%sover\n%s", e, err, show(got), show(s))
	}
}

func unchanged(*api.State) {}

func text(cells []api.Cell) string {
	s, _ := plan.Text(cells)
	return s
}

func badIds() []int { return []int{0, -1, api.MaxNumber + 1, math.MinInt, math.MaxInt} }

func badNames() []string {
	return []string{"", "a:b", "a.b", "$x", "@x", "%x", "=x", "+x", "-x", "!x", "^x", "{x", " x", "x ", "\x1f", "a\nb", "\x7f", strings.Repeat("x", 33)}
}

func goodNames() []string {
	return []string{"a", "work", "sh", "a b", "~", "}", strings.Repeat("x", 32)}
}

func TestP83Pane(t *testing.T) {
	for _, kind := range []int{api.EvPaneAdd, api.EvPaneClose} {
		for _, pane := range []int{7, 8, 100, api.MaxNumber} {
			applied(t, rich(), api.Event{Kind: kind, Pane: pane}, unchanged)
		}
		applied(t, api.State{}, api.Event{Kind: kind, Pane: 1}, unchanged)
		for _, pane := range append(badIds(), 1, 2, 3, 4, 5, 6) {
			refused(t, rich(), api.Event{Kind: kind, Pane: pane})
		}
		s := rich()
		s.Windows[0].Cells[0].W++ // no layout any more: it has no panes, nor is 3 one of them for being active
		applied(t, s, api.Event{Kind: kind, Pane: 3}, unchanged)
		applied(t, s, api.Event{Kind: kind, Pane: 2}, unchanged)
		refused(t, s, api.Event{Kind: kind, Pane: 4})
	}
}

func TestP83WindowAdd(t *testing.T) {
	for _, name := range goodNames() {
		for at, ids := range map[int][]int{2: {3, 6}, 3: {8, api.MaxNumber}} {
			for _, id := range ids {
				applied(t, rich(), api.Event{Kind: api.EvWindowAdd, Window: id, Name: name}, func(s *api.State) {
					s.Windows = slices.Insert(s.Windows, at, api.Window{Id: id, Name: name})
				})
			}
		}
	}
	applied(t, api.State{}, api.Event{Kind: api.EvWindowAdd, Window: 1, Name: "sh"}, func(s *api.State) {
		s.Windows = []api.Window{{Id: 1, Name: "sh"}}
	})
	for _, id := range append(badIds(), 1, 2, 7) {
		refused(t, rich(), api.Event{Kind: api.EvWindowAdd, Window: id, Name: "sh"})
	}
	for _, name := range badNames() {
		refused(t, rich(), api.Event{Kind: api.EvWindowAdd, Window: 3, Name: name})
	}
}

func TestP83WindowClose(t *testing.T) {
	s := rich()
	s.Sessions[0].Links = s.Sessions[0].Links[:2]
	applied(t, s, api.Event{Kind: api.EvWindowClose, Window: 7}, func(s *api.State) { s.Windows = s.Windows[:2] })
	for _, id := range append(badIds(), 1, 2, 3, 5) {
		refused(t, s, api.Event{Kind: api.EvWindowClose, Window: id})
	}
	refused(t, rich(), api.Event{Kind: api.EvWindowClose, Window: 7})
	s.Sessions = nil
	for i, id := range []int{1, 2, 7} {
		applied(t, s, api.Event{Kind: api.EvWindowClose, Window: id}, func(s *api.State) { s.Windows = slices.Delete(s.Windows, i, i+1) })
	}
	refused(t, work(), api.Event{Kind: api.EvWindowClose, Window: 1})
	refused(t, api.State{}, api.Event{Kind: api.EvWindowClose, Window: 1})
	onlyLast := rich()
	onlyLast.Sessions[0].Links = nil
	onlyLast.Sessions[1].Links = []api.Link{link0(2, 1), link0(5, 7)}
	refused(t, onlyLast, api.Event{Kind: api.EvWindowClose, Window: 7})
	applied(t, onlyLast, api.Event{Kind: api.EvWindowClose, Window: 2}, func(s *api.State) { s.Windows = slices.Delete(s.Windows, 1, 2) })
}

func TestP83Renamed(t *testing.T) {
	for _, name := range goodNames() {
		applied(t, rich(), api.Event{Kind: api.EvWindowRenamed, Window: 2, Name: name}, func(s *api.State) { s.Windows[1].Name = name })
		applied(t, rich(), api.Event{Kind: api.EvSessionRenamed, Session: 4, Name: name}, func(s *api.State) { s.Sessions[1].Name = name })
	}
	for _, name := range badNames() {
		refused(t, rich(), api.Event{Kind: api.EvWindowRenamed, Window: 2, Name: name})
		refused(t, rich(), api.Event{Kind: api.EvSessionRenamed, Session: 4, Name: name})
	}
	for _, id := range append(badIds(), 3, 5, 6) {
		refused(t, rich(), api.Event{Kind: api.EvWindowRenamed, Window: id, Name: "x"})
		refused(t, rich(), api.Event{Kind: api.EvSessionRenamed, Session: id, Name: "x"})
	}
}

func layoutEvent(window int, whole, visible string, zoom bool) api.Event {
	return api.Event{Kind: api.EvLayout, Window: window, Layout: whole, Visible: visible, Zoom: zoom}
}

func TestP83Layout(t *testing.T) {
	for _, cells := range [][]api.Cell{side(1), side(1, 2), side(9, 8, 7), sideOf(1000, 1, 4), sideOf(1, 1000, 1<<62), crowd(1, 1, 1, 32).Windows[0].Cells} {
		p := text(cells)
		for i, id := range []int{1, 2, 7} {
			applied(t, rich(), layoutEvent(id, p, p, false), func(s *api.State) { s.Windows[i].Cells, s.Windows[i].Zoom = cells, false })
			refused(t, rich(), layoutEvent(id, p, p, true))
			if len(cells) == 1 {
				continue
			}
			for _, c := range cells[1:] { // which of them is active is not asked
				alone := text(sideOf(cells[0].W, cells[0].H, c.Pane))
				applied(t, rich(), layoutEvent(id, p, alone, true), func(s *api.State) { s.Windows[i].Cells, s.Windows[i].Zoom = cells, true })
				refused(t, rich(), layoutEvent(id, p, alone, false))
				refused(t, rich(), layoutEvent(id, alone, p, true))
				refused(t, rich(), layoutEvent(id, alone, alone, true))
			}
		}
	}
}

func TestP83LayoutRefused(t *testing.T) {
	p, q := text(side(1, 2)), text(side(1))
	applied(t, rich(), layoutEvent(1, p, q, true), func(s *api.State) { s.Windows[0].Cells, s.Windows[0].Zoom = side(1, 2), true })
	for _, id := range append(badIds(), 3, 4, 5) {
		refused(t, rich(), layoutEvent(id, p, p, false))
		refused(t, rich(), layoutEvent(id, p, q, true))
	}
	for _, visible := range []string{
		text(side(3)), text(sideOf(79, 24, 1)), text(sideOf(81, 24, 1)), text(sideOf(80, 23, 1)), text(sideOf(80, 25, 1)),
		text(sideOf(40, 24, 1)), text(side(1, 2)), text(side(2, 1)), text(side(1, 3)), "",
	} {
		refused(t, rich(), layoutEvent(1, p, visible, true))
		if visible != p {
			refused(t, rich(), layoutEvent(1, p, visible, false))
		}
	}
	for _, bad := range []string{
		"", "b25e", "b25e,", "b25f,80x24,0,0,1", "B25E,80x24,0,0,1", "b25e,80x24,0,0,1 ", " " + q, q + ",", strings.Repeat("0", 2049),
		fmt.Sprintf("%04x,%s", plan.Sum("0x24,0,0,1"), "0x24,0,0,1"), fmt.Sprintf("%04x,%s", plan.Sum("80x24,0,0,0"), "80x24,0,0,0"),
	} {
		refused(t, rich(), layoutEvent(1, bad, bad, false))
		refused(t, rich(), layoutEvent(1, bad, q, false))
		refused(t, rich(), layoutEvent(1, q, bad, false))
		refused(t, rich(), layoutEvent(1, bad, q, true))
		refused(t, rich(), layoutEvent(1, p, bad, true))
	}
	refused(t, api.State{}, layoutEvent(1, q, q, false))
	refused(t, api.State{Sessions: rich().Sessions}, layoutEvent(1, q, q, false))
}

// Whether active and last are panes of the new layout is not asked, nor whether another window has these panes.
func TestP83LayoutLeavesTheRest(t *testing.T) {
	p := text(side(4, 5))
	s, err := Apply(rich(), layoutEvent(1, p, p, false))
	if err != api.OK || s.Windows[0].Active != 3 || s.Windows[0].Last != 2 || s.Windows[0].Name != "sh" || Valid(s) {
		t.Errorf("error %d\n%s", err, show(s))
	}
}

func TestP83PaneChanged(t *testing.T) {
	for _, pane := range []int{1, 2, 3} {
		applied(t, rich(), api.Event{Kind: api.EvPaneChanged, Window: 1, Pane: pane}, func(s *api.State) {
			s.Windows[0].Active, s.Windows[0].Last = pane, 0
		})
	}
	applied(t, rich(), api.Event{Kind: api.EvPaneChanged, Window: 7, Pane: 6}, func(s *api.State) { s.Windows[2].Active, s.Windows[2].Last = 6, 0 })
	for _, pane := range append(badIds(), 4, 5, 6, 7) {
		refused(t, rich(), api.Event{Kind: api.EvPaneChanged, Window: 1, Pane: pane})
	}
	for _, id := range append(badIds(), 2, 3, 4, 7) {
		refused(t, rich(), api.Event{Kind: api.EvPaneChanged, Window: id, Pane: 1})
	}
	s := rich()
	s.Windows[0].Cells[1].H--
	s.Windows[1].Cells = nil
	refused(t, s, api.Event{Kind: api.EvPaneChanged, Window: 1, Pane: 1})
	refused(t, s, api.Event{Kind: api.EvPaneChanged, Window: 2, Pane: 4})
	refused(t, s, api.Event{Kind: api.EvPaneChanged, Window: 2})
}

func TestP83SessionAdd(t *testing.T) {
	for at, ids := range [][]int{{1}, {3}, {5, 100, api.MaxNumber}} {
		for _, id := range ids {
			for _, name := range goodNames() {
				applied(t, rich(), api.Event{Kind: api.EvSessionAdd, Session: id, Name: name}, func(s *api.State) {
					s.Sessions = slices.Insert(s.Sessions, at, api.Session{Id: id, Name: name, Current: -1, Last: -1})
				})
			}
		}
	}
	for _, id := range append(badIds(), 2, 4) {
		refused(t, rich(), api.Event{Kind: api.EvSessionAdd, Session: id, Name: "x"})
	}
	for _, name := range badNames() {
		refused(t, rich(), api.Event{Kind: api.EvSessionAdd, Session: 3, Name: name})
	}
}

func TestP83SessionClose(t *testing.T) {
	for i, id := range []int{2, 4} {
		applied(t, rich(), api.Event{Kind: api.EvSessionClose, Session: id}, func(s *api.State) { s.Sessions = slices.Delete(s.Sessions, i, i+1) })
	}
	for _, id := range append(badIds(), 1, 3, 5, 7) {
		refused(t, rich(), api.Event{Kind: api.EvSessionClose, Session: id})
	}
	refused(t, api.State{}, api.Event{Kind: api.EvSessionClose, Session: 1})
}

func TestP83Link(t *testing.T) {
	for at, indices := range map[int][]int{1: {1, 2}, 2: {4, 8}, 3: {10, 9998, 9999}} {
		for _, index := range indices {
			for _, id := range []int{1, 2, 7} {
				applied(t, rich(), api.Event{Kind: api.EvLink, Session: 2, Index: index, Window: id}, func(s *api.State) {
					s.Sessions[0].Links = slices.Insert(s.Sessions[0].Links, at, link0(index, id))
				})
			}
		}
	}
	applied(t, rich(), api.Event{Kind: api.EvLink, Session: 4, Index: 0, Window: 1}, func(s *api.State) {
		s.Sessions[1].Links = slices.Insert(s.Sessions[1].Links, 0, link0(0, 1))
	})
	for _, index := range []int{0, 3, 9, -1, 10000, math.MinInt, math.MaxInt} {
		refused(t, rich(), api.Event{Kind: api.EvLink, Session: 2, Index: index, Window: 1})
	}
	for _, id := range append(badIds(), 1, 3, 5, 7) {
		refused(t, rich(), api.Event{Kind: api.EvLink, Session: id, Index: 1, Window: 1})
	}
	for _, id := range append(badIds(), 3, 4, 5, 6, 8) {
		refused(t, rich(), api.Event{Kind: api.EvLink, Session: 2, Index: 1, Window: id})
	}
}

func TestP83Unlink(t *testing.T) {
	for i, index := range []int{0, 3, 9} { // 3 is current, 0 was
		applied(t, rich(), api.Event{Kind: api.EvUnlink, Session: 2, Index: index}, func(s *api.State) {
			s.Sessions[0].Links = slices.Delete(s.Sessions[0].Links, i, i+1)
		})
		applied(t, rich(), api.Event{Kind: api.EvSessionWindow, Session: 2, Index: index}, func(s *api.State) {
			s.Sessions[0].Current, s.Sessions[0].Last = index, -1
		})
	}
	for _, kind := range []int{api.EvUnlink, api.EvSessionWindow} {
		for _, index := range []int{1, 2, 4, 5, 8, 10, -1, 9999, 10000, math.MinInt, math.MaxInt} {
			refused(t, rich(), api.Event{Kind: kind, Session: 2, Index: index})
		}
		for _, id := range append(badIds(), 1, 3, 5) {
			refused(t, rich(), api.Event{Kind: kind, Session: id, Index: 5})
		}
		refused(t, rich(), api.Event{Kind: kind, Session: 4, Index: 0})
	}
	applied(t, work(), api.Event{Kind: api.EvUnlink, Session: 1, Index: 0}, func(s *api.State) { s.Sessions[0].Links = nil })
}

func TestP83AnyOther(t *testing.T) {
	for kind := -2; kind < 300; kind++ {
		if slices.Contains(thirteen(), kind) {
			continue
		}
		for _, s := range []api.State{{}, work(), rich()} {
			refused(t, s, api.Event{Kind: kind})
			refused(t, s, api.Event{Kind: kind, Session: 2, Window: 1, Pane: 1, Name: "x", Layout: text(side(1)), Visible: text(side(1))})
		}
	}
	refused(t, rich(), api.Event{Kind: math.MinInt})
	refused(t, rich(), api.Event{Kind: math.MaxInt})
}

// fit are events, one of each kind, that can follow behind rich; with the fields that their kinds name.
func fit() []api.Event {
	p := text(side(1, 2, 3))
	return []api.Event{
		{Kind: api.EvPaneAdd, Pane: 9},
		{Kind: api.EvPaneClose, Pane: 9},
		{Kind: api.EvWindowAdd, Window: 9, Name: "x"},
		{Kind: api.EvWindowClose, Window: 8},
		{Kind: api.EvWindowRenamed, Window: 1, Name: "x"},
		{Kind: api.EvLayout, Window: 1, Layout: p, Visible: p},
		{Kind: api.EvLayout, Window: 1, Layout: p, Visible: text(side(1)), Zoom: true},
		{Kind: api.EvPaneChanged, Window: 1, Pane: 1},
		{Kind: api.EvSessionAdd, Session: 9, Name: "x"},
		{Kind: api.EvSessionClose, Session: 4},
		{Kind: api.EvSessionRenamed, Session: 4, Name: "x"},
		{Kind: api.EvLink, Session: 4, Index: 7, Window: 1},
		{Kind: api.EvUnlink, Session: 4, Index: 5},
		{Kind: api.EvSessionWindow, Session: 4, Index: 2},
	}
}

// names tells which fields a kind names.
func names(kind int) string {
	return map[int]string{
		api.EvPaneAdd: "Pane", api.EvPaneClose: "Pane", api.EvWindowAdd: "Window Name", api.EvWindowClose: "Window",
		api.EvWindowRenamed: "Window Name", api.EvLayout: "Window Layout Visible Zoom", api.EvPaneChanged: "Window Pane",
		api.EvSessionAdd: "Session Name", api.EvSessionClose: "Session", api.EvSessionRenamed: "Session Name",
		api.EvLink: "Session Index Window", api.EvUnlink: "Session Index", api.EvSessionWindow: "Session Index",
	}[kind]
}

// What a kind does not name makes no difference, whether it would fit there or not.
func TestP83FieldsNotNamed(t *testing.T) {
	s := rich()
	s.Windows = append(s.Windows, window(8, "alone", side(8)))
	m := newMaker(83)
	for _, e := range fit() {
		want, err := Apply(s, e)
		if err != api.OK {
			t.Fatalf("%+v: error %d", e, err)
		}
		for range 300 {
			other := m.anyEvent(s)
			wild := other
			wild.Kind = e.Kind
			for _, name := range strings.Fields(names(e.Kind)) {
				switch name {
				case "Session":
					wild.Session = e.Session
				case "Window":
					wild.Window = e.Window
				case "Pane":
					wild.Pane = e.Pane
				case "Index":
					wild.Index = e.Index
				case "Name":
					wild.Name = e.Name
				case "Layout":
					wild.Layout = e.Layout
				case "Visible":
					wild.Visible = e.Visible
				case "Zoom":
					wild.Zoom = e.Zoom
				}
			}
			got, err := Apply(s, wild)
			if err != api.OK || !same(got, want) {
				t.Fatalf("behind %+v, error %d:\n%swant\n%s", wild, err, show(got), show(want))
			}
		}
	}
}
