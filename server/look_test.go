package server

import (
	"math"
	"strings"
	"testing"

	"mullion/api"
	"mullion/delta"
)

// entries of every kind, good ones and refused ones, over which everything is looked at.
func everyEntry() []api.Entry {
	return []api.Entry{
		ticking(), attaching(2, 500), attaching(2, 500), attaching(9, 1), sending(2, "new -s a\nsplitw -h\nrefresh -B w:%*:#{pane_bytes}\n"),
		writing(1, "abc"), writing(2, strings.Repeat("d", 200)), writing(9, "x"), attaching(1, 0), writing(1, "e"), sending(1, "send -t %2 x Enter\nrena"),
		ticking(), draining(2, 100), draining(2, -1), draining(3, 1), sending(1, "mew b\nnothing\n"), sending(2, "refresh -f pause-after=1 -A %1:pause\n"),
		writing(2, "f"), ticking(), ticking(), ticking(), sending(2, "new -d -s c\nswitchc -t c\n"), attaching(4, 70), ending(9), ending(2), draining(1, 9999),
		sending(1, "detach\nhas\n"), draining(1, 10), draining(1, 9999), detaching(1), {}, {Kind: 8}, sending(2, "kill-session -t a\n"), draining(4, 9999),
		ticking(), draining(2, 9999), ending(3), draining(2, 9999), ticking(),
	}
}

// Every look behind every entry, as the model has it, and as often as one likes: nothing changes by looking.
func TestP1612Looks(t *testing.T) {
	p, unseen := begun(t), made(t, plain())
	for _, e := range everyEntry() {
		text, err := unseen.Step(e)
		if got, gotErr := p.play(e); got != text || gotErr != err {
			t.Fatalf("%s: %q, %d; unseen %q, %d", telling(e), got, gotErr, text, err)
		}
		for range 3 {
			p.look(telling(e))
		}
		now := p.s.State()
		if !delta.Valid(now) {
			t.Fatalf("behind %s: no state: %+v", telling(e), now)
		}
		for _, x := range now.Sessions {
			for _, l := range x.Links {
				for _, pane := range panesOf(now) {
					p.s.Vars(api.Place{Session: x.Id, Index: l.Index, Window: l.Window, Pane: pane})
				}
			}
		}
		p.look("Vars")
	}
	if shown(p.s) != shown(unseen) {
		t.Errorf("looked at:\n%s\nnot looked at:\n%s", shown(p.s), shown(unseen))
	}
}

func TestP1612Panes(t *testing.T) {
	p := working(t).input(1, "send -l abc", "splitw -d").output(1, strings.Repeat("x", 130))
	if from, to, there := p.s.Extent(1); from != 30 || to != 130 || !there || p.s.Typed(1) != "abc" {
		t.Errorf("pane 1: %d to %d, %v, typed %q", from, to, there, p.s.Typed(1))
	}
	if from, to, there := p.s.Extent(2); from != 0 || to != 0 || !there || p.s.Typed(2) != "" {
		t.Errorf("pane 2: %d to %d, %v, typed %q", from, to, there, p.s.Typed(2))
	}
	p.done(1)
	for _, pane := range append(noPanes(), 1) {
		if from, to, there := p.s.Extent(pane); from != 0 || to != 0 || there || p.s.Typed(pane) != "" {
			t.Errorf("pane %d: %d to %d, %v, typed %q", pane, from, to, there, p.s.Typed(pane))
		}
	}
}

// Peers are all clients that are there, by rising number, closed ones too.
func TestP1612Peers(t *testing.T) {
	p := working(t).attach(4, 7).attach(2, 999)
	p.drainAll().input(2, "refresh -f pause-after=3 -B w:@*:x", "refresh -B a::b").input(4, "detach").output(1, "abcdef")
	want := []api.Peer{
		{Client: 1, Session: 1, Limit: 1000, Size: 18, Count: 1},
		{Client: 2, Session: 1, Limit: 999, Age: 3, Size: 66, Count: 2, Watches: []api.Watch{{Name: "a", Format: "b"}, {Name: "w", What: "@*", Format: "x"}}},
		{Client: 4, Session: 1, Limit: 7, Size: 39, Count: 1, Closed: true},
	}
	if got := p.s.Peers(); telling(got) != telling(want) {
		t.Errorf("%+v, and not %+v", got, want)
	}
	p.drain(4, math.MaxInt)
	p.there(1, 2).detach(1).there(2)
}
