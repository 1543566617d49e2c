package client

import (
	"math"
	"testing"

	"mullion/api"
)

// Each pair looks behind every call at all that Peer tells; here it is written out.
func TestC12Peer(t *testing.T) {
	c := made(t, 200)
	want := func(w api.Peer) {
		t.Helper()
		for _, number := range []int{1, 4, 0, -3, math.MaxInt} {
			w.Client = number
			if got := c.Peer(number); !samePeer(got, w) {
				t.Fatalf("Peer(%d) = %+v, want %+v", number, got, w)
			}
		}
	}
	p := api.Peer{Limit: 200}
	want(p)
	c.Hello(0, nil)
	p.Size = 24
	want(p)
	c.Feed("a\nb")
	want(p)
	c.Block(0, true, []string{"x"})
	p.Size, p.Count = 24+26, 1
	want(p)
	c.Go(2, "a")
	p.Size, p.Session = 50+22, 2
	want(p)
	c.SetAge(1)
	p.Age = 1
	want(p)
	c.Output(9, 0, 0, "o")
	p.Size = 72 + 13
	want(p)
	c.Late(5)
	want(p)
	c.Pause(9, 1)
	p.Size, p.Paused = 85+12, []int{9}
	want(p)
	c.Pause(3, 0)
	p.Size, p.Paused = 97+12, []int{3, 9}
	want(p)
	c.Watch(api.Watch{Name: "w", What: "%*", Format: "f"})
	p.Watches = []api.Watch{{Name: "w", What: "%*", Format: "f"}}
	want(p)
	c.Watch(api.Watch{Name: "a"})
	p.Watches = []api.Watch{{Name: "a"}, {Name: "w", What: "%*", Format: "f"}}
	want(p)
	c.Tell("w", []api.Event{{Kind: api.EvMessage, Text: "m"}})
	p.Size = 109 + 11
	want(p)
	c.Unwatch("a")
	p.Watches = []api.Watch{{Name: "w", What: "%*", Format: "f"}}
	want(p)
	c.Continue(9, 1)
	p.Size, p.Paused = 120+15, []int{3}
	want(p)
	c.Notify(api.Event{Kind: api.EvPaneClose, Pane: 3})
	p.Size, p.Paused = 135+15, nil
	want(p)
	c.Drain(100)
	p.Size = 50
	want(p)
	c.Pause(1, 0)
	c.Exit("bye")
	p.Size, p.Paused, p.Closed = 50+12+10, []int{1}, true
	want(p)
	c.Drain(1000)
	p.Size = 0
	want(p)
}

// closes are the ways in which a client is closed.
func closes() map[string]func(p *pair) {
	return map[string]func(p *pair){
		"Exit":         func(p *pair) { p.exit("detached") },
		"Block, tick":  func(p *pair) { p.block(-1, true) },
		"Block, room":  func(p *pair) { p.block(1, true, make([]string, 200000)...) },
		"Hello":        func(p *pair) { p.hello(-1) },
		"Notify":       func(p *pair) { p.notify(fill()...) },
		"Tell":         func(p *pair) { p.tell("w", fill()...) },
		"Pause":        func(p *pair) { p.notify(fill()[:p.room()]...); p.pause(77, 1) },
		"Output":       func(p *pair) { p.notify(fill()[:p.room()]...); p.output(77, 1, 0, "x") },
		"Go":           func(p *pair) { p.notify(fill()[:p.room()]...); p.goTo(5, "five") },
		"Continue":     func(p *pair) { p.notify(fill()[:p.room()]...); p.goOn(2, 1) },
		"Hello's list": func(p *pair) { p.hello(1, fill()...) },
	}
}

// fill are events with lines of 10 bytes, more than a queue of limit 1000 takes.
func fill() []api.Event {
	l := make([]api.Event, 4000)
	for i := range l {
		l[i] = message(10)
	}
	return l
}

// room is how many lines of 10 bytes the queue takes.
func (p *pair) room() int { return (p.m.limit + api.Spare - p.m.size()) / 10 }

func TestC13KeptBehindTheEnd(t *testing.T) {
	for what, end := range closes() {
		p := paired(t, 1000)
		p.goTo(3, "three")
		p.setAge(4)
		p.watch("w", "%*", "f")
		p.watch("a", "", "g")
		p.pause(5, 0)
		p.pause(2, 0)
		p.block(0, true)
		end(p)
		if !p.c.Closed() || !p.c.Peer(1).Closed {
			t.Fatalf("%s: the client is open", what)
		}
		was := p.c.Peer(1)
		everyCall(p)
		if now := p.c.Peer(1); !samePeer(was, now) {
			t.Errorf("%s: a closed client has changed: %+v, was %+v", what, now, was)
		}
		if len(was.Watches) != 2 || len(was.Paused) < 1 || was.Age != 4 || was.Session != 3 && was.Session != 5 {
			t.Errorf("%s: the closed client is %+v", what, was)
		}
		p.drain(math.MaxInt)
		was.Size = 0
		everyCall(p)
		if now := p.c.Peer(1); !samePeer(was, now) {
			t.Errorf("%s: a closed client that is drained has changed: %+v, was %+v", what, now, was)
		}
	}
}

// everyCall makes each call that may change something, but Drain.
func everyCall(p *pair) {
	p.t.Helper()
	p.hello(1, api.Event{Kind: api.EvPaneClose, Pane: 5})
	p.feed("a\nb\n")
	p.block(1, true, "x")
	p.block(-1, false)
	p.notify(api.Event{Kind: api.EvPaneClose, Pane: 5}, message(20))
	p.output(9, 1, 0, "data")
	p.output(9, -1, 0, "data")
	p.late(1000)
	p.pause(8, 0)
	p.goOn(5, 0)
	p.setAge(9)
	p.setAge(0)
	p.watch("w", "", "other")
	p.watch("new", "", "")
	p.unwatch("a")
	p.unwatch("w")
	p.tell("w", message(30))
	p.goTo(6, "six")
	p.goTo(-1, "")
	p.exit("again")
	p.exit("")
}
