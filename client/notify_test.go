package client

import (
	"math"
	"strings"
	"testing"

	"mullion/api"
)

// sample is an event and its line, if it is told.
type sample struct {
	e    api.Event
	line string
}

const somePlan = "b25d,80x24,0,0,1"

// toldSamples are events of all kinds that Notify tells.
func toldSamples() []sample {
	return []sample{
		{api.Event{Kind: api.EvOutput, Pane: 2, Text: "a\nb"}, `%output %2 a\012b`},
		{api.Event{Kind: api.EvPause, Pane: 2, Offset: 5}, "%pause %2 5"},
		{api.Event{Kind: api.EvContinue, Pane: 2, Offset: 0}, "%continue %2 0"},
		{api.Event{Kind: api.EvPaneAdd, Pane: 1, Offset: 7}, "%pane-add %1 7"},
		{api.Event{Kind: api.EvPaneClose, Pane: 3}, "%pane-close %3"},
		{api.Event{Kind: api.EvWindowAdd, Window: 1, Name: "sh"}, "%window-add @1 sh"},
		{api.Event{Kind: api.EvWindowClose, Window: 9}, "%window-close @9"},
		{api.Event{Kind: api.EvWindowRenamed, Window: 1, Name: "a b"}, "%window-renamed @1 a b"},
		{api.Event{Kind: api.EvLayout, Window: 1, Layout: somePlan, Visible: "0", Zoom: true}, "%layout-change @1 " + somePlan + " 0 Z"},
		{api.Event{Kind: api.EvPaneChanged, Window: 1, Pane: 4}, "%window-pane-changed @1 %4"},
		{api.Event{Kind: api.EvSessionAdd, Session: 1, Name: "work"}, "%session-add $1 work"},
		{api.Event{Kind: api.EvSessionClose, Session: 1}, "%session-close $1"},
		{api.Event{Kind: api.EvSessionRenamed, Session: 1, Name: "x"}, "%session-renamed $1 x"},
		{api.Event{Kind: api.EvLink, Session: 1, Index: 0, Window: 2}, "%window-link $1 0 @2"},
		{api.Event{Kind: api.EvUnlink, Session: 1, Index: 9999}, "%window-unlink $1 9999"},
		{api.Event{Kind: api.EvSessionWindow, Session: 1, Index: 3}, "%session-window-changed $1 3"},
		{api.Event{Kind: api.EvSession, Session: 2, Name: "y"}, "%session-changed $2 y"},
		{api.Event{Kind: api.EvWatch, Name: "w", Session: 1, Window: 2, Index: 3, Pane: 4, Text: "v"}, "%subscription-changed w $1 @2 3 %4 : v"},
		{api.Event{Kind: api.EvMessage, Text: "%exit"}, "%message %exit"},
		{api.Event{Kind: api.EvMessage}, "%message "},
	}
}

// passedOver are events that Notify does not tell: such as have no line, guards, lines of an answer, exits.
func passedOver() []api.Event {
	return []api.Event{
		{},
		{Kind: api.EvBad, Text: "%nothing"},
		{Kind: -1},
		{Kind: math.MaxInt},
		{Kind: api.EvBegin, Tick: 1, Number: 1, Flag: 1},
		{Kind: api.EvEnd, Tick: 1, Number: 1, Flag: 1},
		{Kind: api.EvError, Tick: 1, Number: 1},
		{Kind: api.EvBody, Text: "a line of an answer"},
		{Kind: api.EvBody},
		{Kind: api.EvExit},
		{Kind: api.EvExit, Text: "detached"},
		{Kind: api.EvOutput, Pane: 1},
		{Kind: api.EvOutput, Pane: 0, Text: "a"},
		{Kind: api.EvOutput, Pane: 1, Text: strings.Repeat("a", api.MaxOutput+1)},
		{Kind: api.EvPause, Pane: 1, Offset: -1},
		{Kind: api.EvPaneClose},
		{Kind: api.EvPaneClose, Pane: 2, Offset: 1},
		{Kind: api.EvPaneClose, Pane: 2, Name: "x"},
		{Kind: api.EvWindowAdd, Window: 1, Name: "a:b"},
		{Kind: api.EvWindowAdd, Window: 1},
		{Kind: api.EvLayout, Window: 1, Layout: somePlan},
		{Kind: api.EvLink, Session: 1, Index: 10000, Window: 1},
		{Kind: api.EvWatch, Name: "a b", Session: 1, Window: 1, Pane: 1},
		{Kind: api.EvMessage, Text: strings.Repeat("a", api.MaxText+1)},
		{Kind: api.EvMessage, Pane: 1, Text: "a"},
	}
}

func TestC5EveryKind(t *testing.T) {
	var all []api.Event
	var lines []string
	for _, s := range toldSamples() {
		p := paired(t, 0)
		p.notify(s.e)
		p.wantDrained(s.line)
		all, lines = append(all, s.e), append(lines, s.line)
	}
	p := paired(t, 100)
	p.notify(all...)
	p.wantDrained(lines...)
	p.notify()
	p.wantDrained()
}

func TestC5PassedOver(t *testing.T) {
	a, b := toldSamples()[0], toldSamples()[9]
	for _, e := range passedOver() {
		p := paired(t, 100)
		p.pause(2, 0)
		p.notify(e)
		p.wantDrained("%pause %2 0")
		p.notify(a.e, e, e, b.e, e)
		p.wantDrained(a.line, b.line)
		if p.c.Closed() || len(p.c.Peer(1).Paused) != 1 {
			t.Errorf("%+v: %+v", e, p.c.Peer(1))
		}
	}
	p := paired(t, 100)
	p.notify(passedOver()...)
	p.wantDrained()
}

func TestC5PaneClose(t *testing.T) {
	p := paired(t, 1000)
	for _, pane := range []int{5, 2, 9} {
		p.pause(pane, pane)
	}
	p.wantDrained("%pause %5 5", "%pause %2 2", "%pause %9 9")
	closed := func(pane int) api.Event { return api.Event{Kind: api.EvPaneClose, Pane: pane} }
	p.notify(closed(3), closed(2))
	p.wantDrained("%pane-close %3", "%pane-close %2")
	p.goOn(2, 7)
	p.wantDrained()
	p.notify(closed(2), closed(9), closed(5))
	p.wantDrained("%pane-close %2", "%pane-close %9", "%pane-close %5")
	if paused := p.c.Peer(1).Paused; len(paused) != 0 {
		t.Errorf("paused: %v", paused)
	}
	p.output(2, 1, 0, "x")
	p.wantDrained("%output %2 x")
}

// Only the lines tell of these three: the panes are paused by the calls alone.
func TestC5EventsPauseNothing(t *testing.T) {
	p := paired(t, 1000)
	p.notify(api.Event{Kind: api.EvPause, Pane: 1, Offset: 3})
	p.output(1, 1, 3, "x")
	p.pause(1, 4)
	p.notify(api.Event{Kind: api.EvContinue, Pane: 1, Offset: 4})
	p.output(1, 1, 4, "y")
	p.notify(api.Event{Kind: api.EvPaneAdd, Pane: 1}, api.Event{Kind: api.EvOutput, Pane: 1, Text: "z"})
	p.wantDrained("%pause %1 3", "%output %1 x", "%pause %1 4", "%continue %1 4", "%pane-add %1 0", "%output %1 z")
	if paused := p.c.Peer(1).Paused; len(paused) != 1 {
		t.Errorf("paused: %v", paused)
	}
}

// Notifications have room up to the limit and Spare; the one that has none closes the client.
func TestC5Room(t *testing.T) {
	for _, limit := range []int{0, 77, api.MaxLimit} {
		for _, left := range []int{0, 1, 14, 15, 16, 29, 30, 31} {
			p := filled(t, limit, limit+api.Spare-left)
			p.m.paused[3], p.c.paused[3] = true, struct{}{}
			ahead := p.m.size()
			p.notify(api.Event{Kind: api.EvPaneClose, Pane: 2}, api.Event{Kind: api.EvPaneClose, Pane: 3}, api.Event{Kind: api.EvPaneClose, Pane: 4})
			want := strings.Repeat("x", min(left/15, 2))
			want = strings.Replace(want, "x", "%pane-close %2\n", 1)
			want = strings.Replace(want, "x", "%pane-close %3\n", 1) + behindLine + "\n"
			if all := p.drain(math.MaxInt); all[ahead:] != want {
				t.Errorf("limit %d, room for %d: %q", limit, left, all[ahead:])
			}
			if paused := p.c.Peer(1).Paused; len(paused) == 0 != (left >= 30) {
				t.Errorf("limit %d, room for %d: the panes %v are paused", limit, left, paused)
			}
		}
	}
}

// What is behind the event without room is not told, even if it is shorter.
func TestC5NothingBehindTheEnd(t *testing.T) {
	p := filled(t, 0, api.Spare-100)
	ahead := p.m.size()
	p.notify(message(101), message(20))
	p.notify(message(20))
	if all := p.drain(math.MaxInt); all[ahead:] != behindLine+"\n" {
		t.Errorf("behind the end: %q", all[ahead:])
	}
	p.notify(message(20))
	p.wantDrained()
}

func TestC11Go(t *testing.T) {
	p := paired(t, 0)
	p.goTo(3, "work")
	p.goTo(1, "a b")
	p.goTo(1, "a b")
	p.wantDrained("%session-changed $3 work", "%session-changed $1 a b", "%session-changed $1 a b")
	for _, name := range []string{"", " x", "a:b", strings.Repeat("n", 33), "a\nb"} {
		p.goTo(5, "ok")
		p.goTo(7, name)
		p.wantDrained("%session-changed $5 ok")
		if p.c.Session() != 7 {
			t.Errorf("Go(7, %q): session %d", name, p.c.Session())
		}
	}
	p.goTo(api.MaxNumber, "a")
	p.wantDrained("%session-changed $4611686018427387904 a")
	for _, session := range []int{0, -1, -5, math.MinInt, api.MaxNumber + 1, math.MaxInt} {
		p.goTo(2, "a")
		p.goTo(session, "a")
		p.wantDrained("%session-changed $2 a")
		if want := max(session, 0); p.c.Session() != want {
			t.Errorf("Go(%d): session %d", session, p.c.Session())
		}
	}
}

func TestC11GoWithoutRoom(t *testing.T) {
	p := filled(t, 0, api.Spare)
	p.goTo(4, "a")
	if !p.c.Closed() || p.c.Session() != 4 {
		t.Errorf("closed %v, session %d", p.c.Closed(), p.c.Session())
	}
	p.goTo(5, "a")
	if p.c.Session() != 4 {
		t.Errorf("a closed client goes to session %d", p.c.Session())
	}
}

func TestC11Exit(t *testing.T) {
	longest := strings.Repeat("r", api.MaxText)
	for reason, line := range map[string]string{
		"":                                  "%exit",
		"detached":                          "%exit detached",
		"server exited":                     "%exit server exited",
		" ":                                 "%exit  ",
		"a\nb\\":                            `%exit a\012b\134`,
		"%exit":                             "%exit %exit",
		longest:                             "%exit " + longest,
		longest + "r":                       "%exit",
		strings.Repeat("\n", api.MaxText):   "%exit " + strings.Repeat(`\012`, api.MaxText),
		strings.Repeat("\n", api.MaxText+1): "%exit",
	} {
		for _, size := range []int{0, 100, 100 + api.Spare} {
			p := filled(t, 100, size)
			p.exit(reason)
			p.exit("again")
			if all := p.drain(math.MaxInt); all[size:] != line+"\n" || !p.c.Closed() {
				t.Errorf("Exit(%.20q) behind %d bytes: %.40q", reason, size, all[size:])
			}
		}
	}
}

func TestC11Drain(t *testing.T) {
	p := paired(t, 100)
	p.notify(api.Event{Kind: api.EvWindowClose, Window: 1})
	p.output(1, 1, 0, "abc")
	if got := p.drain(5) + "|" + p.drain(0) + p.drain(-1) + p.drain(math.MinInt) + "|" + p.drain(20); got != "%wind||ow-close @1\n%output " {
		t.Errorf("drained %q", got)
	}
	p.exit("bye")
	if got := p.drain(3) + "|" + p.drain(math.MaxInt) + "|" + p.drain(10); got != "%1 |abc\n%exit bye\n|" {
		t.Errorf("drained %q", got)
	}
	if !p.c.Closed() {
		t.Error("an empty queue is open again")
	}
}
