package server

import (
	"fmt"
	"math"
	"strings"
	"testing"

	"mullion/api"
)

// shelf is a server with two sessions: $1 links @1 (of the panes 1 and 2) at 2 and 5 and 9, @2 (of the panes 4, 5 and 3, in
// this order) at 4; $2 links @3 (of the pane 6) at 0, and @1 at 1. Client 1 is in $1, client 2 in $2.
func shelf(t *testing.T) *pair {
	t.Helper()
	p := begun(t).attach(1, 9999).input(1, "new -s work", "splitw -h", "neww -d -t 4 -n edit", "movew -t 2",
		"splitw -t :4", "splitw -t :4", "selectl -t :4 even-horizontal", "swapp -s %3 -t %4", "swapp -s %3 -t %5",
		"linkw -d -s :2 -t 5", "linkw -d -s :2 -t 9", "new -d -s play", "linkw -d -s @1 -t play:1").attach(2, 9999).input(2, "switchc -t play")
	p.drainAll()
	want := "{Sessions:[{Id:1 Name:work Links:[{Index:2 Window:1} {Index:4 Window:2} {Index:5 Window:1} {Index:9 Window:1}] Current:2 Last:-1}" +
		" {Id:2 Name:play Links:[{Index:0 Window:3} {Index:1 Window:1}] Current:0 Last:-1}]"
	if got := telling(p.s.State()); !strings.HasPrefix(got, want) {
		t.Fatalf("the shelf is %s", got)
	}
	if got := telling(panesInOrder(p, 2)); got != "[4 5 3]" {
		t.Fatalf("the panes of @2 are %s", got)
	}
	return p
}

func panesInOrder(p *pair, window int) []int {
	var panes []int
	for _, w := range p.s.State().Windows {
		for _, c := range w.Cells {
			if w.Id == window && c.Kind == api.CellPane {
				panes = append(panes, c.Pane)
			}
		}
	}
	return panes
}

// says has a watch said at the next tick, from anew: each place as $S @W INDEX %P, with what the format says there.
func (p *pair) says(client int, what, format string, want ...string) *pair {
	p.t.Helper()
	p.plant(client, api.Watch{Name: "w", What: what, Format: format}).tick(1)
	var told []string
	for _, line := range want {
		told = append(told, "%subscription-changed w "+line)
	}
	return p.told(client, told...)
}

func TestP168TheCurrentPlace(t *testing.T) {
	p := shelf(t).says(1, "", "x", "$1 @1 2 %2 : x").says(2, "", "#S:#I.#P", "$2 @3 0 %6 : play:0.0")
	p.input(1, "selectw -t 9").drainAll().says(1, "", "#{window_index}#{window_flags}", "$1 @1 9 %2 : 9*")
	p.input(1, "selectp -t %1", "selectw -t 4").drainAll().says(1, "", "", "$1 @2 4 %5 : ")
	p.input(2, "selectw -t 1").drainAll().says(2, "", "#D", "$2 @1 1 %1 : %1").says(1, "", "#D", "$1 @2 4 %5 : %5")
}

func TestP168Windows(t *testing.T) {
	p := shelf(t).says(1, "@1", "#I#F", "$1 @1 2 %2 : 2*").says(1, "@2", "#I#F", "$1 @2 4 %5 : 4").says(1, "@3", "x")
	p.says(2, "@1", "#I", "$2 @1 1 %2 : 1").says(2, "@2", "x").says(2, "@3", "#W", "$2 @3 0 %6 : sh")
	p.says(1, "@*", "#I#W", "$1 @1 2 %2 : 2sh", "$1 @2 4 %5 : 4edit").says(2, "@*", "#I", "$2 @3 0 %6 : 0", "$2 @1 1 %2 : 1")
	p.input(1, "selectw -t 9", "selectp -t %3", "selectp -t %1").drainAll()
	p.says(1, "@*", "#D#F", "$1 @1 2 %1 : %1-", "$1 @2 4 %3 : %3").says(1, "@1", "#F", "$1 @1 2 %1 : -")
	p.input(1, "unlinkw -t 2").drainAll().says(1, "@*", "#I", "$1 @2 4 %3 : 4", "$1 @1 5 %1 : 5")
}

func TestP168Panes(t *testing.T) {
	p := shelf(t).says(1, "%1", "#I.#P", "$1 @1 2 %1 : 2.0").says(1, "%3", "#I.#P", "$1 @2 4 %3 : 4.2").says(1, "%6", "x").says(1, "%7", "x")
	p.says(2, "%1", "#I.#P", "$2 @1 1 %1 : 1.0").says(2, "%3", "x").says(2, "%6", "x", "$2 @3 0 %6 : x")
	p.says(1, "%*", "#P#{?pane_active,!,}", "$1 @1 2 %1 : 0", "$1 @1 2 %2 : 1!", "$1 @2 4 %4 : 0", "$1 @2 4 %5 : 1!", "$1 @2 4 %3 : 2")
	p.says(2, "%*", "#D", "$2 @3 0 %6 : %6", "$2 @1 1 %1 : %1", "$2 @1 1 %2 : %2")
	p.input(1, "resizep -Z -t %4").drainAll().says(1, "%*", "#{pane_width}", "$1 @1 2 %1 : 40", "$1 @1 2 %2 : 39", "$1 @2 4 %4 : 26", "$1 @2 4 %5 : 26", "$1 @2 4 %3 : 26")
}

// Any other text means no place.
func TestP168OtherTexts(t *testing.T) {
	p := shelf(t)
	for _, what := range []string{"@", "%", "*", "$1", "$*", "@0", "%0", "@01", "%01", "@+1", "%-1", "@1 ", " @1", "@1*", "%**", "@@1", "@%1", "%1.0", "1",
		"@4611686018427387904", "%9223372036854775807", "%99999999999999999999999", "@9", "%9", "work", "=work", ":", "\x00", strings.Repeat("%1", 5000)} {
		p.says(1, what, "x").says(2, what, "x")
	}
}

// The ids of windows and panes that have gone, and of sessions' own, are no places.
func TestP168IdsThatAreNone(t *testing.T) {
	p := shelf(t).input(1, "killp -t %1", "unlinkw -t 4 -k").drainAll()
	p.says(1, "%1", "x").says(1, "%3", "x").says(1, "@2", "x").says(1, "%2", "x", "$1 @1 2 %2 : x").says(1, "%*", "", "$1 @1 2 %2 : ")
}

// Where the format has a fault the text is empty.
func TestP168Faults(t *testing.T) {
	p := shelf(t)
	for _, format := range []string{"#{", "x#{a b}", "#{}", "#{p2000:x}", "#{e|/|:1,0}", strings.Repeat("x", api.MaxText+1), strings.Repeat("#{n:", 17) + "x" + strings.Repeat("}", 17)} {
		p.says(1, "@1", format, "$1 @1 2 %2 : ").says(1, "", format, "$1 @1 2 %2 : ").says(1, "%1", format, "$1 @1 2 %1 : ")
	}
	p.says(1, "@*", "#{e|/|:8,#{e|-|:window_index,4}}", "$1 @1 2 %2 : -4", "$1 @2 4 %5 : ")
	p.says(1, "", strings.Repeat("x", api.MaxText), "$1 @1 2 %2 : "+strings.Repeat("x", api.MaxText))
	p.says(1, "", `a\\`+"\n\xff%", `$1 @1 2 %2 : a\134\134\012`+"\xff%")
}

// All that a place has can be asked for.
func TestP168Values(t *testing.T) {
	p := shelf(t).output(3, "12345")
	p.told(1, "%output %3 12345")
	p.says(1, "%3", "#{pane_active} #{pane_bytes} #{pane_height} #{pane_id} #{pane_index} #{pane_left} #{pane_top} #{pane_width} #{session_id} #{session_name} "+
		"#{session_windows} #{window_active} #{window_flags} #{window_height} #{window_id} #{window_index} #{window_name} #{window_panes} #{window_width} #{window_zoomed_flag}",
		"$1 @2 4 %3 : 0 5 24 %3 2 54 0 26 $1 work 4 0  24 @2 4 edit 3 80 0")
}

// A client in no session has no places.
func TestP168InNoSession(t *testing.T) {
	p := begun(t).attach(1, 999).input(1, "new -d").drainAll()
	for _, what := range []string{"", "@1", "@*", "%1", "%*"} {
		p.says(1, what, "x")
	}
	p.input(1, "switchc -t 1").drainAll().says(1, "@*", "x", "$1 @1 0 %1 : x")
}

// A client whose session is gone is closed by then: its watches say nothing, and are kept.
func TestP168InASessionThatIsGone(t *testing.T) {
	p := shelf(t).input(1, "refresh -B w:%*:#D", "kill-session").tick(1)
	if peer := p.peer(1); !peer.Closed || peer.Session != 1 || len(peer.Watches) != 1 {
		t.Errorf("client 1: %+v", peer)
	}
	if got := p.drain(1, math.MaxInt); strings.Contains(got, "subscription") || !strings.HasSuffix(got, "%exit session closed\n") {
		t.Errorf("told %q", got)
	}
	m := moment{store: p.s.store, state: p.s.State()}
	for _, session := range []int{math.MinInt, -1, 0, 1, 3, math.MaxInt} {
		for _, what := range []string{"", "@1", "@*", "%1", "%*"} {
			if got := m.said(api.Watch{Name: "w", What: what}, session); len(got) != 0 {
				t.Errorf("of the session %d %q says %v", session, what, got)
			}
		}
	}
}

// The event has the fields of its kind alone.
func TestP168TheEvent(t *testing.T) {
	p := shelf(t)
	got := moment{store: p.s.store, state: p.s.State()}.said(api.Watch{Name: "name", What: "%5", Format: "#I"}, 1)
	want := []api.Event{{Kind: api.EvWatch, Name: "name", Session: 1, Window: 2, Index: 4, Pane: 5, Text: "4"}}
	if telling(got) != telling(want) {
		t.Errorf("%+v, and not %+v", got, want)
	}
}

// A watch that a command begins, over what comes and goes: each event is told that it did not say at the tick before.
func TestP168WhatComesAndGoes(t *testing.T) {
	p := working(t).input(1, "refresh -B w:%*:#{pane_id}").drainAll()
	said := func(pane int) string { return fmt.Sprintf("%%subscription-changed w $1 @1 0 %%%d : %%%d", pane, pane) }
	p.tick(1).told(1, said(1)).tick(1).told(1)
	p.input(1, "splitw").drainAll().told(1).tick(1).told(1, said(2)).tick(1).told(1)
	p.input(1, "killp -t %1").drainAll().tick(1).told(1)
	p.input(1, "movew -t 3").drainAll().tick(1).told(1, "%subscription-changed w $1 @1 3 %2 : %2")
	p.input(1, "movew -t 0").drainAll().tick(1).told(1, said(2))
	p.input(1, "refresh -B w:%*:#{pane_id}").drainAll().tick(1).told(1, said(2))
	p.input(1, "refresh -B w").drainAll().tick(1).told(1)
}
