package server

import (
	"fmt"
	"math"
	"strings"
	"testing"

	"mullion/api"
)

func TestP163Numbers(t *testing.T) {
	p := begun(t)
	for _, number := range []int{math.MinInt, -1, 0, 5, 6, math.MaxInt} {
		p.step(attaching(number, 0), api.ErrClient)
	}
	for _, number := range []int{4, 1, 3, 2} {
		p.attach(number, 10*number).step(attaching(number, 0), api.ErrClient)
	}
	p.there(1, 2, 3, 4)
	for _, peer := range p.s.Peers() {
		if peer.Limit != 10*peer.Client {
			t.Errorf("client %d has the limit %d", peer.Client, peer.Limit)
		}
	}
}

// A number is free again when its client has gone, and not as long as that is closed alone.
func TestP163FreeAgain(t *testing.T) {
	p := working(t).attach(2, 50).detach(2).there(1).attach(2, 60)
	p.input(2, "detach").step(attaching(2, 70), api.ErrClient)
	p.drain(2, p.peer(2).Size-1)
	p.step(attaching(2, 70), api.ErrClient)
	p.told(2, "").there(1).attach(2, 70)
	if peer := p.peer(2); peer.Limit != 70 || peer.Count != 0 || peer.Closed {
		t.Errorf("attached anew: %+v", peer)
	}
}

func TestP163Limits(t *testing.T) {
	p := begun(t)
	for _, limit := range []int{math.MinInt, -1, api.MaxLimit + 1, math.MaxInt} {
		p.step(attaching(1, limit), api.ErrArg).there()
	}
	for i, limit := range []int{0, 1, api.MaxLimit - 1, api.MaxLimit} {
		p.attach(i+1, limit)
		if peer := p.peer(i + 1); peer.Limit != limit {
			t.Errorf("limit %d: %+v", limit, peer)
		}
	}
	p.told(1, greeted(0)...)
}

// Where both the number and the limit are wrong, the number's error is the answer.
func TestP163OrderOfTheErrors(t *testing.T) {
	p := begun(t).attach(2, 0)
	for _, number := range []int{-1, 0, 2, 5} {
		p.step(attaching(number, -1), api.ErrClient).step(attaching(number, api.MaxLimit+1), api.ErrClient)
	}
	p.step(attaching(1, -1), api.ErrArg)
}

func TestP163GreetingOverNothing(t *testing.T) {
	p := begun(t).attach(1, 0).told(1, greeted(0)...)
	p.tick(3).attach(2, 0).told(2, greeted(3)...)
	if peer := p.peer(2); peer.Session != 0 || peer.Count != 0 || peer.Age != 0 || len(peer.Paused) != 0 || len(peer.Watches) != 0 {
		t.Errorf("a new client: %+v", peer)
	}
	p.input(1, "new -d").told(1, lines(block(3, 1, true), madeLines(1, 1, 1, "1"))...)
	p.told(2, madeLines(1, 1, 1, "1")...)
}

// madeLines are what is told of a new session with a new window of one pane.
func madeLines(session, window, pane int, name string) []string {
	plan := map[int]string{1: "b25e,80x24,0,0,1", 2: "b25f,80x24,0,0,2", 3: "b260,80x24,0,0,3"}[pane]
	return []string{
		fmt.Sprintf("%%pane-add %%%d 0", pane), fmt.Sprintf("%%window-add @%d sh", window),
		fmt.Sprintf("%%layout-change @%d %s %s -", window, plan, plan), fmt.Sprintf("%%window-pane-changed @%d %%%d", window, pane),
		fmt.Sprintf("%%session-add $%d %s", session, name), fmt.Sprintf("%%window-link $%d 0 @%d", session, window),
		fmt.Sprintf("%%session-window-changed $%d 0", session),
	}
}

// The whole state, each pane with its present end, and then the session with the lowest id.
func TestP163GreetingOverSessions(t *testing.T) {
	p := begun(t).attach(1, 9999).input(1, "new -s work", "splitw -h", "new -d -s play -n toy", "linkw -d -s work:0 -t play:5", "resizep -Z -t %2")
	p.output(1, "abc").output(2, strings.Repeat("x", 300)).tick(7).attach(4, 0)
	p.told(4, lines(greeted(7),
		"%pane-add %1 3", "%pane-add %2 300", "%pane-add %3 0",
		"%window-add @1 sh", "%window-add @2 toy",
		"%layout-change @1 020a,80x24,0,0{40x24,0,0,1,39x24,41,0,2} b25f,80x24,0,0,2 Z", "%layout-change @2 b260,80x24,0,0,3 b260,80x24,0,0,3 -",
		"%window-pane-changed @1 %2", "%window-pane-changed @2 %3",
		"%session-add $1 work", "%session-add $2 play",
		"%window-link $1 0 @1", "%window-link $2 0 @2", "%window-link $2 5 @1",
		"%session-window-changed $1 0", "%session-window-changed $2 0",
		"%session-changed $1 work")...)
	if peer := p.peer(4); peer.Session != 1 || peer.Count != 0 {
		t.Errorf("a new client: %+v", peer)
	}
	p.output(2, "y").told(4, "%pause %2 300")
}

// The lowest id is not always 1, nor that of the client that has come ahead.
func TestP163TheSessionWithTheLowestId(t *testing.T) {
	p := begun(t).attach(1, 9999).input(1, "new -s a", "new -s b", "new -s c", "kill-session -t a")
	if peer := p.peer(1); peer.Session != 3 {
		t.Fatalf("client 1: %+v", peer)
	}
	p.attach(2, 0)
	if peer := p.peer(2); peer.Session != 2 {
		t.Errorf("client 2: %+v", peer)
	}
	got := strings.Split(p.drain(2, math.MaxInt), "\n")
	if last := got[len(got)-2]; last != "%session-changed $2 b" {
		t.Errorf("the last line is %q", last)
	}
	p.input(1, "kill-session -t b", "new -d").attach(3, 0)
	if peer := p.peer(3); peer.Session != 3 {
		t.Errorf("client 3: %+v", peer)
	}
}

// What others were told, and have not taken, is not told to one that comes later.
func TestP163NothingFromAhead(t *testing.T) {
	p := begun(t).attach(1, 9999).input(1, "new -s a").output(1, "abc").input(1, "display hello", "renamew x", "killw")
	p.attach(2, 9999).told(2, greeted(0)...)
}
