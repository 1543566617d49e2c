package server

import (
	"math"
	"strings"
	"testing"

	"mullion/api"
	"mullion/exec"
	"mullion/store"
)

func TestP1611Answers(t *testing.T) {
	p := working(t)
	for line, want := range map[string]api.Answer{
		"":                          {Here: 1},
		"lsp":                       {Here: 1, Body: []string{"0: [80x24] %1 (active)"}},
		"nothing":                   {Here: 1, Err: api.ErrVerb, About: "nothing", Body: []string{"unknown command: nothing"}},
		"display -p a ; killp -t 9": {Here: 1, Err: api.ErrTarget, About: "9", Body: []string{"a", "not found: 9"}},
	} {
		if got := p.run(1, api.Line{Text: line}); telling(got) != telling(want) {
			t.Errorf("%q answers %+v, and not %+v", line, got, want)
		}
	}
	long := api.Answer{Here: 1, Err: api.ErrLong, About: "line", Body: []string{"too long: line"}}
	if got := p.run(1, api.Line{Long: true}); telling(got) != telling(long) {
		t.Errorf("a line that is too long answers %+v", got)
	}
	p.told(1)
}

// The session is the one that is handed in, whichever that is.
func TestP1611Here(t *testing.T) {
	p := working(t).input(1, "new -d -s play")
	for here, want := range map[int]string{1: "work", 2: "play"} {
		if got := p.run(here, api.Line{Text: "display -p '#S'"}); telling(got.Body) != "["+want+"]" || got.Here != here {
			t.Errorf("in %d: %+v", here, got)
		}
	}
	for _, here := range []int{math.MinInt, -1, 0, 3, math.MaxInt} {
		if got := p.run(here, api.Line{Text: "display -p x"}); got.Err != api.ErrNowhere || got.Here != here {
			t.Errorf("in %d: %+v", here, got)
		}
	}
}

// All clients are told the difference; none is told a block, none counts.
func TestP1611TheDifference(t *testing.T) {
	p := working(t).attach(2, 999)
	p.drainAll()
	got := p.run(0, api.Line{Text: "new -s two -P"})
	want := api.Answer{Body: []string{"two:0.0"}, Here: 2, Acts: []api.Act{{Kind: api.ActSession, Session: 2}}}
	if telling(got) != telling(want) {
		t.Errorf("%+v, and not %+v", got, want)
	}
	p.told(1, madeLines(2, 2, 2, "two")...).told(2, madeLines(2, 2, 2, "two")...)
	p.run(2, api.Line{Text: "renamew x ; killp -t %9 ; renamew y"})
	p.told(1, "%window-renamed @2 x").told(2, "%window-renamed @2 x")
	p.run(2, api.Line{Text: "renamew y ; nothing"})
	p.told(1).told(2)
	if peer := p.peer(1); peer.Count != 1 || peer.Session != 1 || p.peer(2).Count != 0 {
		t.Errorf("the clients: %+v", p.s.Peers())
	}
	p.input(1, "has").told(1, block(0, 2, true)...)
}

// Of what a line asks only that the server ends is done.
func TestP1611Acts(t *testing.T) {
	p := working(t).input(1, "splitw", "new -d -s two", "refresh -A %2:pause", "refresh -B w::x", "refresh -f pause-after=5").attach(2, 999)
	p.drainAll()
	was := shown(p.s)
	line := "switchc -t two ; refresh -A %1:pause -B v::y -f pause-after=9 ; refresh -A %2:continue -B w -f !pause-after ; display hello ; detach"
	got := p.run(1, api.Line{Text: line})
	kinds := []int{api.ActSession, api.ActPause, api.ActWatch, api.ActAge, api.ActContinue, api.ActUnwatch, api.ActAge, api.ActMessage, api.ActDetach}
	for i, act := range got.Acts {
		if len(got.Acts) != len(kinds) || act.Kind != kinds[i] {
			t.Fatalf("the acts are %+v", got.Acts)
		}
	}
	if now := shown(p.s); now != was || got.Err != api.OK || got.Here != 2 {
		t.Errorf("%+v has changed\n%s\nto\n%s", got, was, now)
	}
	p.told(1).told(2)
}

func TestP1611TheServerEnds(t *testing.T) {
	for _, line := range []string{"kill-server", "new ; kill-server ; detach", "kill-server ; kill-server", "kill-server ; has"} {
		p := working(t).attach(3, 999).input(1, "new -d -s two")
		p.drainAll()
		p.run(1, api.Line{Text: line})
		want := []string{"%session-close $1", "%session-close $2", "%window-close @1", "%window-close @2", "%pane-close %1", "%pane-close %2", "%exit server exited"}
		p.told(1, want...).told(3, want...).there()
	}
	p := begun(t).attach(2, 0).told(2, greeted(0)...)
	p.run(0, api.Line{Text: "kill-server"})
	p.told(2, "%exit server exited")
}

// Clients whose session has gone are closed, and not the one that has asked for it: it is none.
func TestP1611ClosedSessions(t *testing.T) {
	p := working(t).input(1, "new -d -s two").attach(2, 999).input(2, "switchc -t two")
	p.drainAll()
	got := p.run(1, api.Line{Text: "kill-session"})
	if got.Here != 1 || got.Err != api.OK {
		t.Errorf("%+v", got)
	}
	gone := []string{"%session-close $1", "%window-close @1", "%pane-close %1"}
	p.told(1, lines(gone, "%exit session closed")...).told(2, gone...).there(2)
}

// Send and Vars are the store's Type and exec's Vars.
func TestP1611SendAndVars(t *testing.T) {
	p := working(t).input(1, "splitw")
	st, _ := store.New(plain())
	exec.Line(st, 0, api.Line{Text: "new -s work"})
	exec.Line(st, 1, api.Line{Text: "splitw"})
	for _, pane := range []int{math.MinInt, -1, 0, 1, 2, 3, math.MaxInt} {
		for _, text := range []string{"", "ab\n", "\x00\xff", strings.Repeat("x", 250), strings.Repeat("y", api.MaxChunk+1), "c"} {
			if got, want := p.s.Send(pane, text), st.Type(pane, text); got != want || (got == api.OK) != (pane == 1 || pane == 2) {
				t.Errorf("Send(%d, %.20q): error %d, and not %d", pane, text, got, want)
			}
			p.m.st.Type(pane, text)
			p.look("Send")
		}
		if want, _ := st.Typed(pane); p.s.Typed(pane) != want || (pane == 1 || pane == 2) != (want != "") {
			t.Errorf("typed into %d: %q, and not %q", pane, p.s.Typed(pane), want)
		}
	}
	p.drainAll().input(1, "send -t %1 -l z").told(1, block(0, 3, true)...)
	if got := p.s.Typed(1); len(got) != 100 || !strings.HasSuffix(got, "ycz") {
		t.Errorf("typed %q", got)
	}
	for _, session := range []int{-1, 0, 1, 2} {
		for _, index := range []int{-1, 0, 1} {
			for _, window := range []int{0, 1, 2} {
				for _, pane := range []int{-1, 0, 1, 2, 3} {
					place := api.Place{Session: session, Index: index, Window: window, Pane: pane}
					got, want := p.s.Vars(place), exec.Vars(st, place)
					there := session == 1 && index == 0 && window == 1 && (pane == 1 || pane == 2)
					if telling(got) != telling(want) || there != (len(got) == 22) || !there && len(got) != 0 {
						t.Errorf("Vars(%v): %v, and not %v", place, got, want)
					}
				}
			}
		}
	}
	p.look("Vars")
}

// What is sent is told to nobody.
func TestP1611SendTellsNothing(t *testing.T) {
	p := working(t)
	p.s.Send(1, "abc")
	p.m.st.Type(1, "abc")
	p.told(1).tick(1).told(1)
	if _, end, _ := p.s.Extent(1); end != 0 {
		t.Errorf("the pane's end is %d", end)
	}
}
