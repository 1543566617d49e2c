package mirror

import (
	"testing"

	"mullion/api"
)

// A new mirror has had nothing.
func TestM1New(t *testing.T) {
	m := New()
	if m == nil {
		t.Fatal("New answers nil")
	}
	if s := m.State(); len(s.Sessions) != 0 || len(s.Windows) != 0 {
		t.Errorf("its state is %+v", s)
	}
	if n := m.Session(); n != 0 {
		t.Errorf("its session is %d", n)
	}
	if l := m.Feeds(); len(l) != 0 {
		t.Errorf("its feeds are %+v", l)
	}
	if l := m.Replies(); len(l) != 0 {
		t.Errorf("its replies are %+v", l)
	}
	if l := m.Messages(); len(l) != 0 {
		t.Errorf("its messages are %q", l)
	}
	if l := m.Watched(); len(l) != 0 {
		t.Errorf("its subscription events are %+v", l)
	}
	if reason, ended := m.Ended(); reason != "" || ended {
		t.Errorf("it has ended: %q, %v", reason, ended)
	}
	if n, broken := m.Broken(); n != 0 || broken {
		t.Errorf("it is broken: %d, %v", n, broken)
	}
	if rest := m.Rest(); rest != "" {
		t.Errorf("its rest is %q", rest)
	}
}

// A new mirror is in no block, and has not ended: what may come first may come, what may not may not.
func TestM1WhatMayComeFirst(t *testing.T) {
	first := map[int]bool{
		api.EvBegin: true, api.EvPaneAdd: true, api.EvWindowAdd: true, api.EvSessionAdd: true,
		api.EvSession: true, api.EvWatch: true, api.EvMessage: true, api.EvExit: true,
	}
	for kind, line := range kinds() {
		if p := begun(t); first[kind] {
			p.follows(line)
		} else {
			p.breaks(line)
		}
	}
}

// Every New makes one of its own, whatever others were fed.
func TestM1EachItsOwn(t *testing.T) {
	p := greeted(t)
	begun(t)
	p.breaks("x")
	begun(t).follows("%message a")
}
