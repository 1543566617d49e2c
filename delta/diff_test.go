package delta

import (
	"fmt"
	"slices"
	"strings"
	"testing"

	"mullion/api"
	"mullion/plan"
)

// wantTold holds Diff against lines of the wire. %(1 2) stands for the plan of these panes side by side, 80 x 24.
func wantTold(t *testing.T, a, b api.State, want ...string) {
	t.Helper()
	got, err := Diff(a, b)
	if err != api.OK {
		t.Fatalf("Diff answers error %d\n%s\n%s", err, show(a), show(b))
	}
	text := strings.TrimSuffix(lines(t, got), "\n")
	for i := range want {
		want[i] = withPlans(t, want[i])
	}
	if all := strings.Join(want, "\n"); text != all {
		t.Errorf("Diff tells\n%s\nwant\n%s", text, all)
	}
}

func withPlans(t *testing.T, line string) string {
	t.Helper()
	for {
		ahead, rest, ok := strings.Cut(line, "%(")
		if !ok {
			return line
		}
		inside, rest, _ := strings.Cut(rest, ")")
		var panes []int
		for _, word := range strings.Fields(inside) {
			var pane int
			fmt.Sscan(word, &pane)
			panes = append(panes, pane)
		}
		text, err := plan.Text(side(panes...))
		if err != api.OK {
			t.Fatal(err)
		}
		line = ahead + text + rest
	}
}

func one(w api.Window) api.State { return state(session(1, "work", 0, link0(0, w.Id)), w) }

func TestP82Examples(t *testing.T) {
	wantTold(t, api.State{}, work(),
		"%pane-add %1 0", "%window-add @1 sh", "%layout-change @1 b25e,80x24,0,0,1 b25e,80x24,0,0,1 -", "%window-pane-changed @1 %1",
		"%session-add $1 work", "%window-link $1 0 @1", "%session-window-changed $1 0")
	wantTold(t, work(), api.State{}, "%session-close $1", "%window-close @1", "%pane-close %1")
	wantTold(t, work(), one(lastIn(window(1, "sh", side(1, 2)), 1)),
		"%pane-add %2 0", "%layout-change @1 %(1 2) %(1 2) -", "%window-pane-changed @1 %2")
	wantTold(t, work(), one(zoomed(window(1, "sh", side(1, 2)))),
		"%pane-add %2 0", "%layout-change @1 %(1 2) %(2) Z", "%window-pane-changed @1 %2")
	wantTold(t, one(zoomed(window(1, "sh", side(1, 2)))), one(zoomed(activeIn(window(1, "sh", side(1, 2)), 1))),
		"%layout-change @1 %(1 2) %(1) Z", "%window-pane-changed @1 %1")
	moved := state(session(1, "work", 0, link0(0, 1), link0(1, 2)), window(1, "sh", side(1)), window(2, "sh", side(2)))
	wantTold(t, one(window(1, "sh", side(1, 2))), moved,
		"%window-add @2 sh", "%layout-change @1 %(1) %(1) -", "%layout-change @2 %(2) %(2) -",
		"%window-pane-changed @1 %1", "%window-pane-changed @2 %2", "%window-link $1 1 @2")
	wantTold(t, one(activeIn(window(1, "sh", side(1, 2)), 1)), moved,
		"%window-add @2 sh", "%layout-change @1 %(1) %(1) -", "%layout-change @2 %(2) %(2) -",
		"%window-pane-changed @2 %2", "%window-link $1 1 @2")
	exchanged := twin(moved)
	exchanged.Sessions[0].Links = []api.Link{link0(0, 2), link0(1, 1)}
	wantTold(t, moved, exchanged,
		"%window-unlink $1 0", "%window-unlink $1 1", "%window-link $1 0 @2", "%window-link $1 1 @1")
}

func TestP82NotValid(t *testing.T) {
	good, bad := rich(), rich()
	bad.Sessions[0].Current = 4
	for _, pair := range [][2]api.State{{good, bad}, {bad, good}, {bad, bad}, {api.State{}, bad}, {bad, api.State{}}} {
		if events, err := Diff(pair[0], pair[1]); err != api.ErrState || len(events) != 0 {
			t.Errorf("Diff answers %v, error %d", events, err)
		}
	}
	for _, b := range append(brokenSessions(), brokenWindows()...) {
		s := rich()
		b.change(&s)
		if events, err := Diff(good, s); err != api.ErrState || len(events) != 0 {
			t.Errorf("Diff to a state that breaks %q: %v, error %d", b.line, events, err)
		}
		if events, err := Diff(s, good); err != api.ErrState || len(events) != 0 {
			t.Errorf("Diff from a state that breaks %q: %v, error %d", b.line, events, err)
		}
	}
}

// two is where the single differences begin: two sessions show two windows.
func two() api.State {
	return state(
		session(1, "work", 0, link0(0, 1), link0(1, 2)),
		session(2, "play", 4, link0(4, 2), link0(6, 2)),
		window(1, "sh", side(1, 2)),
		window(2, "log", side(3)),
	)
}

func TestP82OneDifference(t *testing.T) {
	for i, c := range []struct {
		change func(s *api.State)
		want   []string
	}{
		{func(s *api.State) {}, nil},
		{func(s *api.State) { s.Windows[1].Name = "x" }, []string{"%window-renamed @2 x"}},
		{func(s *api.State) { s.Windows[0].Zoom = true }, []string{"%layout-change @1 %(1 2) %(2) Z"}},
		{func(s *api.State) { s.Windows[0].Cells = side(2, 1) }, []string{"%layout-change @1 %(2 1) %(2 1) -"}},
		{func(s *api.State) { s.Windows[1].Cells[0].Pane, s.Windows[1].Active = 5, 5 },
			[]string{"%pane-add %5 0", "%layout-change @2 %(5) %(5) -", "%window-pane-changed @2 %5", "%pane-close %3"}},
		{func(s *api.State) { s.Windows[0].Cells = side(2) }, []string{"%layout-change @1 %(2) %(2) -", "%pane-close %1"}},
		{func(s *api.State) { s.Windows[0].Cells = side(7, 1, 9, 2) },
			[]string{"%pane-add %7 0", "%pane-add %9 0", "%layout-change @1 %(7 1 9 2) %(7 1 9 2) -"}},
		{func(s *api.State) { s.Windows[0].Active = 1 }, []string{"%window-pane-changed @1 %1"}},
		{func(s *api.State) { s.Sessions[1].Name = "p" }, []string{"%session-renamed $2 p"}},
		{func(s *api.State) { s.Sessions[0].Name, s.Sessions[1].Name = "play", "work" },
			[]string{"%session-renamed $1 play", "%session-renamed $2 work"}},
		{func(s *api.State) { s.Sessions[0].Links = s.Sessions[0].Links[:1] }, []string{"%window-unlink $1 1"}},
		{func(s *api.State) { s.Sessions[1].Links = append(s.Sessions[1].Links, link0(9999, 1)) }, []string{"%window-link $2 9999 @1"}},
		{func(s *api.State) { s.Sessions[1].Links[1].Window = 1 }, []string{"%window-unlink $2 6", "%window-link $2 6 @1"}},
		{func(s *api.State) { s.Sessions[1].Links[1].Index = 5 }, []string{"%window-unlink $2 6", "%window-link $2 5 @2"}},
		{func(s *api.State) { s.Sessions[1].Current = 6 }, []string{"%session-window-changed $2 6"}},
		{func(s *api.State) { s.Sessions = s.Sessions[:1] }, []string{"%session-close $2"}},
		{func(s *api.State) { s.Sessions = append(s.Sessions, session(3, "new", 8, link0(7, 2), link0(8, 1))) },
			[]string{"%session-add $3 new", "%window-link $3 7 @2", "%window-link $3 8 @1", "%session-window-changed $3 8"}},
		{func(s *api.State) { s.Sessions[0].Last, s.Sessions[1].Last, s.Windows[0].Last = 1, 6, 1 }, nil},
	} {
		t.Run(fmt.Sprint(i), func(t *testing.T) {
			s := two()
			c.change(&s)
			wantTold(t, two(), s, c.want...)
		})
	}
}

// Of a session that goes no unlink is told, of a window and a session that come no renaming.
func TestP82AllKindsTogether(t *testing.T) {
	from := state(
		session(1, "gone", 0, link0(0, 1), link0(1, 3)),
		session(3, "old", 2, link0(1, 3), link0(2, 3), link0(5, 5)),
		session(4, "stays", 0, link0(0, 5), link0(3, 1)),
		session(7, "goes", 0, link0(0, 5)),
		window(1, "closed", side(2, 1)),
		window(3, "three", side(5, 6)),
		window(5, "five", side(7, 8)),
		window(6, "six", side(20)),
	)
	from.Sessions[3].Links = append(from.Sessions[3].Links, link0(1, 6))
	to := state(
		session(2, "early", 1, link0(0, 9), link0(1, 3)),
		session(3, "new", 1, link0(1, 3), link0(2, 5), link0(4, 2)),
		session(4, "stays", 9, link0(0, 3), link0(8, 5), link0(9, 5)),
		session(9, "late", 0, link0(0, 9)),
		window(2, "two", side(9)),
		window(3, "3", side(5, 10)),
		zoomed(activeIn(window(5, "5", side(7, 8)), 7)),
		window(9, "nine", side(3, 6)),
	)
	wantTold(t, from, to,
		"%pane-add %3 0", "%pane-add %9 0", "%pane-add %10 0",
		"%window-add @2 two", "%window-add @9 nine",
		"%window-renamed @3 3", "%window-renamed @5 5",
		"%layout-change @2 %(9) %(9) -", "%layout-change @3 %(5 10) %(5 10) -", "%layout-change @5 %(7 8) %(7) Z", "%layout-change @9 %(3 6) %(3 6) -",
		"%window-pane-changed @2 %9", "%window-pane-changed @3 %10", "%window-pane-changed @5 %7", "%window-pane-changed @9 %6",
		"%session-add $2 early", "%session-add $9 late",
		"%session-renamed $3 new",
		"%window-unlink $3 2", "%window-unlink $3 5", "%window-unlink $4 0", "%window-unlink $4 3",
		"%window-link $2 0 @9", "%window-link $2 1 @3", "%window-link $3 2 @5", "%window-link $3 4 @2",
		"%window-link $4 0 @3", "%window-link $4 8 @5", "%window-link $4 9 @5", "%window-link $9 0 @9",
		"%session-window-changed $2 1", "%session-window-changed $3 1", "%session-window-changed $4 9", "%session-window-changed $9 0",
		"%session-close $1", "%session-close $7",
		"%window-close @1", "%window-close @6",
		"%pane-close %1", "%pane-close %2", "%pane-close %20")
}

func TestP82Zoom(t *testing.T) {
	whole := window(1, "sh", sideOf(61, 17, 1, 2, 3))
	small := activeIn(window(1, "sh", sideOf(60, 17, 1, 2, 3)), 2)
	text := func(cells []api.Cell) string {
		s, _ := plan.Text(cells)
		return s
	}
	wantTold(t, one(whole), one(zoomed(whole)), "%layout-change @1 "+text(whole.Cells)+" "+text(sideOf(61, 17, 3))+" Z")
	wantTold(t, one(zoomed(whole)), one(whole), "%layout-change @1 "+text(whole.Cells)+" "+text(whole.Cells)+" -")
	wantTold(t, one(zoomed(whole)), one(zoomed(whole)))
	wantTold(t, one(whole), one(activeIn(whole, 1)), "%window-pane-changed @1 %1")
	wantTold(t, one(zoomed(whole)), one(zoomed(small)),
		"%layout-change @1 "+text(small.Cells)+" "+text(sideOf(60, 17, 2))+" Z", "%window-pane-changed @1 %2")
	wantTold(t, one(zoomed(whole)), one(zoomed(activeIn(whole, 1))),
		"%layout-change @1 "+text(whole.Cells)+" "+text(sideOf(61, 17, 1))+" Z", "%window-pane-changed @1 %1")
}

func TestP82AtTheBounds(t *testing.T) {
	full := fullState()
	events, err := Diff(api.State{}, full)
	if err != api.OK || len(events) != 32+16*3+8*2+32 {
		t.Fatalf("%d events, error %d", len(events), err)
	}
	if want := told(api.State{}, full); !slices.Equal(events, want) {
		t.Errorf("Diff tells\n%s\nwant\n%s", lines(t, events), lines(t, want))
	}
	if events, err := Diff(full, api.State{}); err != api.OK || len(events) != 8+16+32 {
		t.Errorf("%d events, error %d", len(events), err)
	}
}

// thirteen are the kinds of events that a difference has.
func thirteen() []int {
	return []int{
		api.EvPaneAdd, api.EvPaneClose, api.EvWindowAdd, api.EvWindowClose, api.EvWindowRenamed, api.EvLayout, api.EvPaneChanged,
		api.EvSessionAdd, api.EvSessionClose, api.EvSessionRenamed, api.EvLink, api.EvUnlink, api.EvSessionWindow,
	}
}

// Events are compared whole: what is not named is zero.
func TestP82ByChance(t *testing.T) {
	m := newMaker(82)
	kinds := map[int]int{}
	for i := range 4000 {
		a := m.state()
		b := m.near(a)
		if i%3 == 0 {
			b = m.state()
		}
		got, err := Diff(a, b)
		if err != api.OK {
			t.Fatalf("error %d, from\n%sto\n%s", err, show(a), show(b))
		}
		if want := told(a, b); !slices.Equal(got, want) {
			t.Fatalf("from\n%sto\n%sDiff tells\n%+v\nwant\n%+v", show(a), show(b), got, want)
		}
		for _, e := range got {
			kinds[e.Kind]++
		}
	}
	for _, kind := range thirteen() {
		if kinds[kind] < 300 {
			t.Errorf("too few events of kind %d: %d", kind, kinds[kind])
		}
	}
}
