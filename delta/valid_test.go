package delta

import (
	"fmt"
	"slices"
	"strings"
	"testing"

	"mullion/api"
)

// rich is a state that may be, with more than one of each.
func rich() api.State {
	return state(
		lastOf(session(2, "work", 3, link0(0, 1), link0(3, 2), link0(9, 7)), 0),
		session(4, "play", 5, link0(2, 2), link0(5, 2)),
		lastIn(window(1, "sh", side(1, 2, 3)), 2),
		window(2, "sh", side(4)),
		zoomed(lastIn(window(7, "log 1", side(6, 5)), 6)),
	)
}

func wantValid(t *testing.T, s api.State, lines ...string) {
	t.Helper()
	if got := broken(s); !slices.Equal(got, lines) {
		t.Fatalf("the test is wrong: this breaks %q, not %q:\n%s", got, lines, show(s))
	}
	if Valid(s) != (len(lines) == 0) {
		t.Errorf("Valid is %v, where these lines are broken: %q\n%s", Valid(s), lines, show(s))
	}
}

func TestP81ValidMayBe(t *testing.T) {
	wantValid(t, api.State{})
	wantValid(t, api.State{Sessions: []api.Session{}, Windows: []api.Window{}})
	wantValid(t, work())
	wantValid(t, rich())
	wantValid(t, fullState())
	for i, change := range []func(s *api.State){
		func(s *api.State) { s.Sessions[0].Id = 1 },
		func(s *api.State) { s.Sessions[1].Id = 1 << 62 },
		func(s *api.State) { s.Sessions[0].Name = "play 2" },
		func(s *api.State) { s.Sessions[0].Last = -1 },
		func(s *api.State) { s.Sessions[0].Last = 9 },
		func(s *api.State) { s.Sessions[0].Current, s.Sessions[0].Last = 0, 3 },
		func(s *api.State) { s.Sessions[1].Links[1].Index, s.Sessions[1].Current = 9999, 9999 },
		func(s *api.State) { s.Sessions[1].Links = s.Sessions[1].Links[1:] },
		func(s *api.State) { s.Windows[0].Last = 0 },
		func(s *api.State) { s.Windows[0].Active = 1 },
		func(s *api.State) { s.Windows[0].Zoom = true },
		func(s *api.State) { s.Windows[2].Zoom = false },
		func(s *api.State) { s.Windows[2].Name = strings.Repeat("~", 32) },
		func(s *api.State) { s.Windows[2].Name = "work" },
	} {
		s := rich()
		change(&s)
		t.Run(fmt.Sprint(i), func(t *testing.T) { wantValid(t, s) })
	}
}

type breakage struct {
	line   string
	change func(s *api.State)
}

func brokenSessions() []breakage {
	return []breakage{
		{"sessions rise", func(s *api.State) { slices.Reverse(s.Sessions) }},
		{"sessions rise", func(s *api.State) { s.Sessions[1].Id = 2 }},
		{"session's id", func(s *api.State) { s.Sessions[0].Id = 0 }},
		{"session's id", func(s *api.State) { s.Sessions[0].Id = -3 }},
		{"session's id", func(s *api.State) { s.Sessions[1].Id = 1<<62 + 1 }},
		{"session's name", func(s *api.State) { s.Sessions[1].Name = "" }},
		{"session's name", func(s *api.State) { s.Sessions[1].Name = "a:b" }},
		{"session's name", func(s *api.State) { s.Sessions[0].Name = "$1" }},
		{"session's name", func(s *api.State) { s.Sessions[0].Name = strings.Repeat("x", 33) }},
		{"sessions' names differ", func(s *api.State) { s.Sessions[1].Name = "work" }},
		{"links rise", func(s *api.State) { slices.Reverse(s.Sessions[0].Links) }},
		{"links rise", func(s *api.State) { s.Sessions[1].Links[0].Index = 5 }},
		{"link's index", func(s *api.State) { s.Sessions[1].Links[0].Index = -1 }},
		{"link's index", func(s *api.State) { s.Sessions[0].Links[2].Index = 10000 }},
		{"link's window", func(s *api.State) { s.Sessions[1].Links[0].Window = 3 }},
		{"link's window", func(s *api.State) { s.Sessions[1].Links[1].Window = 0 }},
		{"current", func(s *api.State) { s.Sessions[0].Current = 4 }},
		{"current", func(s *api.State) { s.Sessions[1].Current = -1 }},
		{"current", func(s *api.State) { s.Sessions[1].Current = 3 }},
		{"last index", func(s *api.State) { s.Sessions[0].Last = 4 }},
		{"last index", func(s *api.State) { s.Sessions[1].Last = -2 }},
		{"last index", func(s *api.State) { s.Sessions[1].Last = 0 }},
		{"last index is not current", func(s *api.State) { s.Sessions[0].Last = 3 }},
	}
}

func brokenWindows() []breakage {
	return []breakage{
		{"windows rise", func(s *api.State) { slices.Reverse(s.Windows) }},
		{"windows rise", func(s *api.State) { s.Windows[1].Id, s.Windows[2].Id = s.Windows[2].Id, s.Windows[1].Id }},
		{"windows rise", func(s *api.State) { s.Windows = append(s.Windows, window(7, "sh", side(9))) }},
		{"window's id", func(s *api.State) { s.Windows[0].Id, s.Sessions[0].Links[0].Window = 0, 0 }},
		{"window's id", func(s *api.State) { s.Windows[0].Id, s.Sessions[0].Links[0].Window = -9, -9 }},
		{"window's id", func(s *api.State) { s.Windows[2].Id, s.Sessions[0].Links[2].Window = 1<<62+1, 1<<62+1 }},
		{"window's name", func(s *api.State) { s.Windows[0].Name = "" }},
		{"window's name", func(s *api.State) { s.Windows[2].Name = "x " }},
		{"window's name", func(s *api.State) { s.Windows[1].Name = strings.Repeat("x", 33) }},
		{"window is linked", func(s *api.State) { s.Sessions[0].Links[0].Window = 2 }},
		{"window is linked", func(s *api.State) { s.Windows = append(s.Windows, window(8, "sh", side(9))) }},
		{"active", func(s *api.State) { s.Windows[0].Active = 0 }},
		{"active", func(s *api.State) { s.Windows[0].Active = 4 }},
		{"active", func(s *api.State) { s.Windows[1].Active = 9 }},
		{"last pane", func(s *api.State) { s.Windows[0].Last = 4 }},
		{"last pane", func(s *api.State) { s.Windows[1].Last = -1 }},
		{"last pane", func(s *api.State) { s.Windows[2].Last = 9 }},
		{"last pane is not active", func(s *api.State) { s.Windows[0].Last = 3 }},
		{"last pane is not active", func(s *api.State) { s.Windows[1].Last = 4 }},
		{"zoom", func(s *api.State) { s.Windows[1].Zoom = true }},
		{"pane in one window", func(s *api.State) { s.Windows[1] = window(2, "sh", side(3)) }},
		{"pane in one window", func(s *api.State) { s.Windows[2] = window(7, "sh", side(9, 10, 1, 8)) }},
	}
}

// Each of these states breaks one line of the chapter's list, and no other one.
func TestP81ValidOneLineBroken(t *testing.T) {
	for i, b := range append(brokenSessions(), brokenWindows()...) {
		t.Run(fmt.Sprint(i, " ", b.line), func(t *testing.T) {
			s := rich()
			b.change(&s)
			wantValid(t, s, b.line)
		})
	}
}

// Where there is no link, none is current; where there is no layout, no pane is active: these lines can't be broken alone.
func TestP81ValidLinesBrokenTogether(t *testing.T) {
	s := rich()
	s.Sessions[1].Links = nil
	wantValid(t, s, "one link or more", "current")
	for _, spoil := range []func(w *api.Window){
		func(w *api.Window) { w.Cells = nil },
		func(w *api.Window) { w.Cells = w.Cells[1:] },
		func(w *api.Window) { w.Cells = w.Cells[:2] },
		func(w *api.Window) { w.Cells[1].W++ },
		func(w *api.Window) { w.Cells[0].W = 1001 },
		func(w *api.Window) { w.Cells[2].Pane = 1 },
		func(w *api.Window) { w.Cells[3].Kind = 0 },
	} {
		s := rich()
		s.Windows[0].Last = 0
		spoil(&s.Windows[0])
		wantValid(t, s, "layout", "active")
	}
	wantValid(t, api.State{Windows: rich().Windows}, "window is linked")
	wantValid(t, api.State{Sessions: rich().Sessions}, "link's window")
	wantValid(t, api.State{Sessions: []api.Session{session(1, "a", 0)}}, "one link or more", "current")
}

// crowd has so many sessions, windows, links of its first session, and panes of its last window.
func crowd(sessions, windows, links, panes int) api.State {
	var s api.State
	for i := range sessions {
		s.Sessions = append(s.Sessions, session(i+1, fmt.Sprint("s", i), 0, link0(0, i%windows+1)))
	}
	first := &s.Sessions[0]
	for i := 1; i < links; i++ {
		first.Links = append(first.Links, link0(i, i%windows+1))
	}
	var ids []int
	for i := range panes {
		ids = append(ids, 100+i)
	}
	for i := range windows - 1 {
		s.Windows = append(s.Windows, window(i+1, "sh", side(i+1)))
	}
	s.Windows = append(s.Windows, window(windows, "sh", side(ids...)))
	return s
}

func TestP81ValidAtTheBounds(t *testing.T) {
	wantValid(t, crowd(8, 1, 1, 1))
	wantValid(t, crowd(9, 1, 1, 1), "most sessions")
	wantValid(t, crowd(1, 16, 16, 1))
	wantValid(t, crowd(1, 17, 17, 1), "most windows")
	wantValid(t, crowd(1, 1, 32, 1))
	wantValid(t, crowd(1, 1, 33, 1), "most links")
	wantValid(t, crowd(4, 2, 29, 1))
	wantValid(t, crowd(4, 2, 30, 1), "most links")
	wantValid(t, crowd(1, 1, 1, 32))
	wantValid(t, crowd(1, 2, 2, 31))
	wantValid(t, crowd(1, 2, 2, 32), "most panes")
	wantValid(t, crowd(1, 16, 16, 17))
	wantValid(t, crowd(1, 16, 16, 18), "most panes")
	s := fullState()
	s.Sessions[3].Links = append([]api.Link{link0(0, 1<<62)}, s.Sessions[3].Links...)
	wantValid(t, s, "most links")
	s = fullState()
	s.Windows[9] = window(s.Windows[9].Id, "sh", sideOf(1000, 1000, 1, 2, 3))
	wantValid(t, s, "most panes")
}

func TestP81ValidByChance(t *testing.T) {
	m := newMaker(81)
	count := map[bool]int{}
	for range 8000 {
		s := m.state()
		if !Valid(s) {
			t.Fatalf("this may be:\n%s", show(s))
		}
		for range 1 + m.r.Intn(3) {
			m.spoil(&s)
			want := len(broken(s)) == 0
			if Valid(s) != want {
				t.Fatalf("Valid is %v; broken: %q\n%s", !want, broken(s), show(s))
			}
			count[want]++
		}
	}
	if count[true] < 500 || count[false] < 5000 {
		t.Errorf("the states are too much alike: %v", count)
	}
}

func TestP81Plain(t *testing.T) {
	want := rich()
	want.Sessions[0].Last = -1
	want.Windows[0].Last, want.Windows[2].Last = 0, 0
	wantState(t, "Plain", Plain(rich()), want)
	wantState(t, "Plain of that", Plain(want), want)
	wantState(t, "Plain of nothing", Plain(api.State{}), api.State{})
	odd := api.State{
		Sessions: []api.Session{{Id: -4, Name: "a:b", Current: 7, Last: 7}, {}},
		Windows:  []api.Window{{Id: -4, Cells: []api.Cell{{Depth: -1, Kind: 9, Pane: -2}}, Active: -2, Last: -2, Zoom: true}, {Last: 3}},
	}
	want = twin(odd)
	want.Sessions[0].Last, want.Sessions[1].Last = -1, -1
	want.Windows[0].Last, want.Windows[1].Last = 0, 0
	wantState(t, "Plain of what may not be", Plain(odd), want)
	m := newMaker(811)
	for range 2000 {
		s := m.anyState()
		wantState(t, "Plain", Plain(s), plainOf(s))
	}
}
