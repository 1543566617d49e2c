package server

import (
	"fmt"
	"math"
	"strings"
	"testing"

	"mullion/api"
)

func noPanes() []int { return []int{math.MinInt, -1, 0, 9, api.MaxNumber, math.MaxInt} }

func TestP165LongTexts(t *testing.T) {
	p := working(t)
	for _, size := range []int{api.MaxChunk + 1, 3 * api.MaxChunk} {
		p.step(writing(1, strings.Repeat("x", size)), api.ErrLong).step(writing(9, strings.Repeat("x", size)), api.ErrLong)
	}
	p.told(1).output(1, strings.Repeat("x", api.MaxChunk)).told(1, "%pause %1 0")
	if from, to, _ := p.s.Extent(1); to != api.MaxChunk || from != to-100 {
		t.Errorf("the pane keeps %d to %d", from, to)
	}
	p.attach(2, api.MaxLimit)
	p.drainAll().output(1, strings.Repeat("y", api.MaxChunk))
	var want []string
	for range api.MaxChunk / api.MaxOutput {
		want = append(want, "%output %1 "+strings.Repeat("y", api.MaxOutput))
	}
	p.told(2, want...)
}

func TestP165NoPane(t *testing.T) {
	p := working(t).input(1, "splitw", "killp -t %2", "neww", "killw")
	for _, pane := range append(noPanes(), 2, 3) {
		for _, text := range []string{"", "x", strings.Repeat("x", api.MaxChunk)} {
			p.step(writing(pane, text), api.ErrNoPane)
		}
	}
}

// Nothing is told of an empty text.
func TestP165NoBytes(t *testing.T) {
	p := working(t).attach(2, 0)
	p.drainAll().output(1, "").told(1).told(2)
	if peer := p.peer(2); len(peer.Paused) != 0 {
		t.Errorf("client 2: %+v", peer)
	}
}

// Every client is told, in whatever session it is, with the offset at which the bytes begin for one that has no room.
func TestP165AllClients(t *testing.T) {
	p := working(t).input(1, "new -d -s other").attach(2, 0).attach(3, 30).attach(4, 9999).input(4, "switchc -t other")
	p.drainAll().output(1, "abc\n")
	p.told(1, `%output %1 abc\012`).told(2, "%pause %1 0").told(3, `%output %1 abc\012`).told(4, `%output %1 abc\012`)
	p.output(1, "0123456789")
	p.told(1, "%output %1 0123456789").told(2).told(3, "%output %1 0123456789").told(4, "%output %1 0123456789")
	p.output(1, strings.Repeat("z", 18)).told(3, "%output %1 "+strings.Repeat("z", 18))
	p.output(1, strings.Repeat("z", 19)).told(3, "%pause %1 32").output(1, "y").told(3)
	p.output(2, "x").told(2, "%pause %2 0").told(3, "%output %2 x")
	p.input(3, "refresh -A %1:continue").told(3, lines(block(0, 1, true), "%continue %1 52")...)
	p.output(1, "w").told(3, "%output %1 w").told(2)
	if peer := p.peer(2); telling(peer.Paused) != "[1 2]" {
		t.Errorf("client 2: %+v", peer)
	}
}

// The lines of one text are told all or none.
func TestP165Pieces(t *testing.T) {
	const line = len("%output %1 \n")
	for _, size := range []int{1, 255, 256, 257, 512, 513, 700} {
		text := strings.Repeat("p", size)
		var want []string
		for rest := text; rest != ""; rest = rest[min(256, len(rest)):] {
			want = append(want, "%output %1 "+rest[:min(256, len(rest))])
		}
		whole := size + line*len(want)
		p := working(t).attach(2, whole).attach(3, whole-1)
		p.drainAll().output(1, text).told(2, want...).told(3, "%pause %1 0")
	}
}

// What waits takes room, whatever it is; a line that is taken in part, as much as is left of it.
func TestP165WhatWaitsTakesRoom(t *testing.T) {
	p := working(t).attach(2, 40)
	p.drainAll().input(2, "has").output(1, "abc").told(2, lines(block(0, 1, true), "%output %1 abc")...)
	p.input(2, "has").output(1, "abcd").told(2, lines(block(0, 2, true), "%output %1 abcd")...)
	p.input(2, "has").output(1, "abcde").told(2, lines(block(0, 3, true), "%pause %1 7")...)
	p.input(2, "refresh -A %1:continue").drainAll().input(2, "has")
	p.drain(2, 1)
	p.output(1, "abcde")
	if peer := p.peer(2); len(peer.Paused) != 0 || peer.Size != 40 {
		t.Errorf("client 2: %+v", peer)
	}
}

// A client that has no room for the pause either is closed; the others are told.
func TestP165NoRoomForThePause(t *testing.T) {
	const room = len("%pause %1 3\n")
	p := working(t).output(1, "abc").attach(2, 0).attach(3, 0).fill(2, room-1).fill(3, room)
	p.drain(1, math.MaxInt)
	p.output(1, "x").told(1, "%output %1 x")
	for number, want := range map[int]string{2: "\n%exit too far behind\n", 3: "\n%pause %1 3\n"} {
		if peer := p.peer(number); peer.Closed != (number == 2) || telling(peer.Paused) != "[1]" {
			t.Errorf("client %d: %+v", number, peer)
		}
		got := p.drain(number, math.MaxInt)
		if !strings.HasSuffix(got, want) || strings.Contains(got, "%output") {
			t.Errorf("client %d, at the end: %q", number, got[len(got)-100:])
		}
	}
	p.there(1, 3)
}

// A pane's tail grows whoever listens, and with nobody there.
func TestP165WithoutClients(t *testing.T) {
	p := working(t).detach(1)
	p.output(1, "abc").output(1, strings.Repeat("x", 200))
	if from, to, there := p.s.Extent(1); from != 103 || to != 203 || !there {
		t.Errorf("%d to %d, %v", from, to, there)
	}
	p.attach(2, 9999).told(2, lines(greeted(0), "%pane-add %1 203", madeLines(1, 1, 1, "work")[1:], "%session-changed $1 work")...)
}

func TestP166NoPane(t *testing.T) {
	p := working(t).input(1, "splitw", "killp -t %2")
	for _, pane := range append(noPanes(), 2) {
		p.step(ending(pane), api.ErrNoPane)
	}
	p.done(1).step(ending(1), api.ErrNoPane)
}

func TestP166AmongSeveral(t *testing.T) {
	p := working(t).input(1, "splitw -h", "splitw -h", "new -d -s other").attach(2, 999).input(2, "switchc -t other")
	p.drainAll().input(1, "refresh -A %3:pause").drainAll().done(3)
	want := []string{"%layout-change @1 020a,80x24,0,0{40x24,0,0,1,39x24,41,0,2} 020a,80x24,0,0{40x24,0,0,1,39x24,41,0,2} -", "%window-pane-changed @1 %2", "%pane-close %3"}
	p.told(1, want...).told(2, want...)
	if peer := p.peer(1); len(peer.Paused) != 0 || peer.Closed || peer.Count != 5 {
		t.Errorf("client 1: %+v", peer)
	}
	if _, _, there := p.s.Extent(3); there {
		t.Error("the pane is there still")
	}
}

// The last pane of a window takes the window with it, wherever that is linked.
func TestP166TheLastOfAWindow(t *testing.T) {
	p := working(t).input(1, "neww", "new -d -s other", "linkw -d -s @2 -t other:7")
	p.drainAll().done(2)
	p.told(1, "%window-unlink $1 1", "%window-unlink $2 7", "%session-window-changed $1 0", "%window-close @2", "%pane-close %2")
	if peer := p.peer(1); peer.Closed || peer.Session != 1 {
		t.Errorf("client 1: %+v", peer)
	}
}

// The last pane of a session takes that with it, and the clients that are in it.
func TestP166TheLastOfASession(t *testing.T) {
	p := working(t).input(1, "new -d -s other").attach(2, 999).attach(3, 999).input(3, "switchc -t other")
	p.drainAll().done(1)
	gone := []string{"%session-close $1", "%window-close @1", "%pane-close %1"}
	p.told(1, lines(gone, "%exit session closed")...).told(2, lines(gone, "%exit session closed")...).told(3, gone...).there(3)
	p.done(2).told(3, "%session-close $2", "%window-close @2", "%pane-close %2", "%exit session closed").there()
	if now := p.s.State(); len(now.Sessions)+len(now.Windows) != 0 {
		t.Errorf("at the end: %+v", now)
	}
}

// A pane goes as by kill-pane, out of a zoomed window too.
func TestP166AsByKillPane(t *testing.T) {
	for pane := 1; pane <= 3; pane++ {
		p, q := working(t), working(t)
		for _, x := range []*pair{p, q} {
			x.input(1, "splitw", "splitw -h", "resizep -Z -t %2").drainAll()
		}
		p.done(pane)
		q.input(1, fmt.Sprint("killp -t %", pane))
		got, want := p.drain(1, math.MaxInt), q.drain(1, math.MaxInt)
		if want = strings.TrimPrefix(want, strings.Join(block(0, 5, true), "\n")+"\n"); got != want || telling(p.s.State()) != telling(q.s.State()) {
			t.Errorf("pane %d: told %q, by kill-pane %q", pane, got, want)
		}
	}
}
