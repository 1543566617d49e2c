package server

import (
	"fmt"
	"strings"
	"testing"

	"mullion/api"
)

func TestP167TheTick(t *testing.T) {
	p := working(t).attach(2, 0)
	p.drainAll()
	for want := 1; want <= 5; want++ {
		p.tick(1).told(1).told(2)
		if got := p.s.Tick(); got != want {
			t.Fatalf("the tick is %d, and not %d", got, want)
		}
	}
	p.input(1, "has").told(1, block(5, 2, true)...)
}

// Without an age nothing is late, however long it waits.
func TestP167NoAge(t *testing.T) {
	p := working(t).output(1, "abc").tick(1200).told(1, "%output %1 abc")
	p.input(1, "refresh -f pause-after=1", "refresh -f !pause-after").output(1, "d").tick(20)
	if peer := p.peer(1); len(peer.Paused) != 0 {
		t.Errorf("client 1: %+v", peer)
	}
}

// Output that was told more than age ticks ago pauses its pane at the pane's end.
func TestP167Ages(t *testing.T) {
	for _, age := range []int{1, 2, 7, api.MaxAge} {
		p := working(t).attach(2, 9999).input(1, fmt.Sprint("refresh -f pause-after=", age)).drainAll()
		p.tick(3).output(1, "abc").tick(age)
		if peer := p.peer(1); len(peer.Paused) != 0 {
			t.Fatalf("age %d: %+v", age, peer)
		}
		p.output(1, "de").tick(1)
		p.told(1, "%output %1 abc", "%output %1 de", "%pause %1 5").told(2, "%output %1 abc", "%output %1 de")
		p.tick(2).output(1, "f").told(1).told(2, "%output %1 f")
		p.input(1, "refresh -A %1:continue").told(1, lines(block(p.s.Tick(), 3, true), "%continue %1 6")...).tick(5).told(1)
	}
}

// A line waits as long as one byte of it is there, and no longer.
func TestP167TakenInPart(t *testing.T) {
	p := working(t).input(1, "refresh -f pause-after=1").drainAll().output(1, "abc")
	p.drain(1, len("%output %1 abc"))
	p.tick(2).told(1, "", "%pause %1 3")
	p.input(1, "refresh -A %1:continue").drainAll().output(1, "abc")
	p.drain(1, len("%output %1 abc\n"))
	p.tick(2).told(1)
}

// Several panes, by rising id; those that are paused already are not paused again.
func TestP167SeveralPanes(t *testing.T) {
	p := working(t).input(1, "splitw", "splitw", "splitw", "refresh -f pause-after=2").drainAll()
	p.output(4, "d").output(2, "b").output(1, "a").tick(1).output(3, "c").input(1, "refresh -A %2:pause").tick(2)
	p.told(1, lines("%output %4 d", "%output %2 b", "%output %1 a", "%output %3 c", block(1, 6, true), "%pause %2 1", "%pause %1 1", "%pause %4 1")...)
	p.tick(1).told(1)
	p.output(3, "cc").tick(3).told(1, "%output %3 cc", "%pause %3 3")
}

// Output of a pane that has gone since waits still: nothing is paused for it.
func TestP167LateAndGone(t *testing.T) {
	p := working(t).input(1, "splitw", "refresh -f pause-after=1").drainAll()
	p.output(2, "b").output(1, "a").done(2).tick(2)
	p.told(1, "%output %2 b", "%output %1 a", "%layout-change @1 b25e,80x24,0,0,1 b25e,80x24,0,0,1 -", "%window-pane-changed @1 %1", "%pane-close %2", "%pause %1 1")
	if peer := p.peer(1); telling(peer.Paused) != "[1]" {
		t.Errorf("client 1: %+v", peer)
	}
}

// Each client has its own age.
func TestP167EachClient(t *testing.T) {
	p := working(t).attach(2, 999).attach(3, 999).input(1, "refresh -f pause-after=3").input(3, "refresh -f pause-after=1").drainAll()
	p.output(1, "a").tick(2).told(2, "%output %1 a").told(3, "%output %1 a", "%pause %1 1").tick(2).told(1, "%output %1 a", "%pause %1 1").told(2)
}

// Of one client first what is late, and then what the watches say, by rising name.
func TestP167WatchesBehindPauses(t *testing.T) {
	p := working(t).attach(2, 999).input(1, "refresh -f pause-after=1", "refresh -B b::#{pane_bytes}", "refresh -B c::c", "refresh -B a::a", "refresh -B B::B").drainAll()
	p.input(2, "refresh -B z::z", "refresh -B y::y").drainAll()
	p.output(1, "abc").tick(1)
	w := func(name, text string) string { return "%subscription-changed " + name + " $1 @1 0 %1 : " + text }
	p.told(2, "%output %1 abc", w("y", "y"), w("z", "z"))
	p.output(1, "d").tick(1)
	p.told(1, "%output %1 abc", w("B", "B"), w("a", "a"), w("b", "3"), w("c", "c"), "%output %1 d", "%pause %1 4", w("b", "4"))
	p.told(2, "%output %1 d").tick(3).told(1).told(2)
}

// A client that is closed by what it is told at a tick is told nothing behind it; the next one is.
func TestP167ClosedByATick(t *testing.T) {
	p := working(t).input(1, "refresh -B a::#{p100:x}", "refresh -B b::b").attach(2, 999).input(2, "refresh -B b::b").fill(1, 100)
	p.drain(2, 9999)
	p.tick(1).told(2, "%subscription-changed b $1 @1 0 %1 : b")
	peer := p.peer(1)
	if !peer.Closed || len(peer.Watches) != 2 {
		t.Fatalf("client 1: %+v", peer)
	}
	got := p.drain(1, peer.Size)
	if !strings.HasSuffix(got, "\n%exit too far behind\n") || strings.Contains(got, "subscription") {
		t.Errorf("at the end: %q", got[len(got)-100:])
	}
}
