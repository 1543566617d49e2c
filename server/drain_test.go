package server

import (
	"math"
	"strings"
	"testing"

	"mullion/api"
)

func noClients() []int { return []int{math.MinInt, -1, 0, 3, 5, math.MaxInt} }

func TestP169NoSuchClient(t *testing.T) {
	p := working(t).attach(2, 10).detach(2)
	for _, number := range append(noClients(), 2) {
		for _, n := range []int{math.MinInt, -1, 0, 1, math.MaxInt} {
			p.step(draining(number, n), api.ErrClient)
		}
	}
}

func TestP169Numbers(t *testing.T) {
	p := working(t)
	for _, n := range []int{math.MinInt, -2, -1} {
		p.step(draining(1, n), api.ErrArg)
	}
	p.input(1, "has")
	all := strings.Join(append(block(0, 2, true), ""), "\n")
	for _, n := range []int{0, 1, 5, 0, 7, len(all) - 13} {
		if got := p.drain(1, n); got != all[:n] {
			t.Fatalf("drain of %d: %q, and not %q", n, got, all[:n])
		}
		all = all[n:]
	}
	for _, n := range []int{0, 1, math.MaxInt} {
		if got := p.drain(1, n); got != "" || all != "" {
			t.Fatalf("drain of %d of an empty queue: %q", n, got)
		}
	}
	p.step(draining(1, -1), api.ErrArg).there(1)
	for _, n := range []int{24, 25, api.MaxLimit, math.MaxInt} {
		p.input(1, "has")
		if got := p.drain(1, n); got != strings.Join(append(block(0, p.peer(1).Count, true), ""), "\n") {
			t.Fatalf("drain of %d: %q", n, got)
		}
	}
}

// A closed client is there until the last of its bytes is taken.
func TestP169AClosedClientGoes(t *testing.T) {
	p := working(t).input(1, "detach")
	size := p.peer(1).Size
	for range size - 1 {
		p.drain(1, 1)
		p.there(1)
		if peer := p.peer(1); !peer.Closed {
			t.Fatalf("the client: %+v", peer)
		}
	}
	p.step(draining(1, 0), api.OK).there(1)
	p.step(draining(1, -1), api.ErrArg).there(1)
	if got := p.drain(1, 1); got != "\n" {
		t.Errorf("the last byte is %q", got)
	}
	p.there().step(draining(1, 1), api.ErrClient).step(draining(1, -1), api.ErrClient).step(sending(1, ""), api.ErrClient).step(detaching(1), api.ErrClient)
}

// All at once, and more than there is; a client that is not closed stays.
func TestP169AllAtOnce(t *testing.T) {
	for _, more := range []int{0, 1, 99999} {
		p := working(t).attach(2, 100).input(1, "detach")
		p.drain(1, p.peer(1).Size+more)
		p.there(2)
		p.drain(2, p.peer(2).Size+more)
		p.there(2)
	}
}

// Each way to be closed ends alike.
func TestP169EveryWayToBeClosed(t *testing.T) {
	for reason, entries := range map[string][]api.Entry{
		"detached":       {sending(1, "detach\n")},
		"server exited":  {sending(2, "kill-server\n")},
		"session closed": {ending(1)},
		"too far behind": {sending(1, strings.Repeat("lscm\n", 40))},
	} {
		p := working(t).attach(2, 100)
		for _, e := range entries {
			p.step(e, api.OK)
		}
		if got := p.drain(1, math.MaxInt); !strings.HasSuffix(got, "\n%exit "+reason+"\n") && got != "%exit "+reason+"\n" {
			t.Errorf("%s: %q", reason, got[max(0, len(got)-100):])
		}
		if _, err := p.play(draining(1, 1)); err != api.ErrClient {
			t.Errorf("%s: the client is there still", reason)
		}
	}
}

func TestP1610NoSuchClient(t *testing.T) {
	p := working(t).attach(2, 10)
	for _, number := range noClients() {
		p.step(detaching(number), api.ErrClient)
	}
	p.detach(2).step(detaching(2), api.ErrClient).there(1)
}

// It goes at once, with its queue and all that was known of it; the others are told nothing.
func TestP1610Goes(t *testing.T) {
	p := working(t).attach(2, 999).input(2, "refresh -f pause-after=3", "refresh -B w::x", "refresh -A %1:pause", "has").send(2, "renamew be")
	p.detach(2).there(1).told(1)
	if now := p.s.State(); len(now.Sessions) != 1 {
		t.Errorf("the state: %+v", now)
	}
	p.attach(2, 50)
	if got, want := p.peer(2), (api.Peer{Client: 2, Session: 1, Limit: 50, Size: p.peer(2).Size}); telling(got) != telling(want) {
		t.Errorf("attached anew: %+v", got)
	}
	p.told(2, lines(greeted(0), madeLines(1, 1, 1, "work"), "%session-changed $1 work")...)
	p.send(2, "gun\n").told(2, failed(0, 1, api.ErrVerb, "gun")...).tick(9).told(2)
}

// A closed client is detached as well.
func TestP1610Closed(t *testing.T) {
	p := working(t).input(1, "detach").detach(1).there().attach(1, 0)
	if peer := p.peer(1); peer.Closed {
		t.Errorf("attached anew: %+v", peer)
	}
}
