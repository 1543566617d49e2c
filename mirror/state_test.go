package mirror

import (
	"testing"

	"mullion/api"
)

func TestM3Greeting(t *testing.T) {
	greeted(t).state(greetedState()).feeds(api.Feed{Pane: 1, Start: 7, End: 7}, api.Feed{Pane: 2})
}

// Every step of a state on its way is seen.
func TestM3AStateOnItsWay(t *testing.T) {
	s := api.State{}
	one := []api.Cell{{Kind: api.CellPane, W: 80, H: 24, Pane: 1}}
	p := begun(t).follows("%window-add @3 sh")
	s.Windows = []api.Window{{Id: 3, Name: "sh"}}
	p.state(s).follows("%layout-change @3 " + onePlan + " " + onePlan + " -")
	s.Windows[0].Cells = one
	p.state(s).follows("%window-pane-changed @3 %1")
	s.Windows[0].Active = 1
	p.state(s).follows("%session-add $5 work")
	s.Sessions = []api.Session{{Id: 5, Name: "work", Current: -1, Last: -1}}
	p.state(s).follows("%window-link $5 4 @3")
	s.Sessions[0].Links = []api.Link{{Index: 4, Window: 3}}
	p.state(s).follows("%session-window-changed $5 4")
	s.Sessions[0].Current = 4
	p.state(s).follows("%window-link $5 0 @3")
	s.Sessions[0].Links = []api.Link{{Index: 0, Window: 3}, {Index: 4, Window: 3}}
	p.state(s).follows("%window-unlink $5 4")
	s.Sessions[0].Links = s.Sessions[0].Links[:1]
	p.state(s).follows("%session-renamed $5 play")
	s.Sessions[0].Name = "play"
	p.state(s).follows("%window-renamed @3 edit")
	s.Windows[0].Name = "edit"
	p.state(s).follows("%session-add $2 first", "%window-add @1 first")
	s.Sessions = append([]api.Session{{Id: 2, Name: "first", Current: -1, Last: -1}}, s.Sessions...)
	s.Windows = append([]api.Window{{Id: 1, Name: "first"}}, s.Windows...)
	p.state(s).follows("%session-close $5")
	s.Sessions = s.Sessions[:1]
	p.state(s).follows("%window-close @3")
	s.Windows = s.Windows[:1]
	p.state(s).feeds()
}

// What was current or active ahead is not told, so it is not known.
func TestM3LastIsNone(t *testing.T) {
	p := greeted(t).follows("%window-link $1 5 @1", "%session-window-changed $1 5", "%session-window-changed $1 0", "%window-pane-changed @1 %1", "%window-pane-changed @1 %2", "%window-pane-changed @1 %1")
	s := p.m.State()
	if x := s.Sessions[0]; x.Current != 0 || x.Last != -1 {
		t.Errorf("the session is %+v", x)
	}
	if w := s.Windows[0]; w.Active != 1 || w.Last != 0 {
		t.Errorf("the window is %+v", w)
	}
}

func TestM3Zoom(t *testing.T) {
	p := greeted(t).follows("%layout-change @1 " + rowPlan + " " + twoPlan + " Z")
	want := greetedState()
	want.Windows[0].Zoom = true
	p.state(want).follows("%layout-change @1 " + rowPlan + " " + onePlan + " Z").state(want)
	p.follows("%layout-change @1 " + rowPlan + " " + rowPlan + " -").state(greetedState())
}

// Events that delta refuses break the mirror.
func TestM3WhatDeltaRefuses(t *testing.T) {
	for _, line := range []string{
		"%window-add @1 other", "%window-close @1", "%window-close @2", "%window-renamed @2 x", "%window-pane-changed @1 %3", "%window-pane-changed @2 %1",
		"%layout-change @2 " + onePlan + " " + onePlan + " -", "%layout-change @1 " + onePlan + " " + twoPlan + " -", "%layout-change @1 " + onePlan + " " + onePlan + " Z",
		"%layout-change @1 b25f,80x24,0,0,1 b25f,80x24,0,0,1 -", "%layout-change @1 0 0 -", "%layout-change @1 " + rowPlan + " b260,80x24,0,0,3 Z", "%layout-change @1 " + rowPlan + " " + rowPlan + " Z",
		"%session-add $1 other", "%session-close $2", "%session-renamed $2 x", "%window-link $1 0 @1", "%window-link $1 1 @2", "%window-link $2 0 @1",
		"%window-unlink $1 1", "%window-unlink $2 0", "%session-window-changed $1 1", "%session-window-changed $2 0", "%pane-close %1", "%pane-close %2", "%pane-close %3",
	} {
		greeted(t).breaks(line)
	}
	for _, line := range []string{
		"%window-close @1", "%window-renamed @1 x", "%window-pane-changed @1 %1", "%layout-change @1 " + onePlan + " " + onePlan + " -",
		"%session-close $1", "%session-renamed $1 x", "%window-link $1 0 @1", "%window-unlink $1 0", "%session-window-changed $1 0", "%pane-close %1",
	} {
		begun(t).breaks(line)
	}
}

// What a state must be to be valid is not asked.
func TestM3NoValidStateIsAsked(t *testing.T) {
	p := begun(t)
	for _, line := range []string{
		"%session-add $1 same", "%session-add $2 same", "%session-add $9 same", "%window-add @1 a", "%window-add @2 a", "%layout-change @1 " + onePlan + " " + onePlan + " -",
		"%layout-change @2 " + onePlan + " " + onePlan + " -", "%window-pane-changed @2 %1", "%window-pane-changed @1 %1", "%layout-change @1 " + twoPlan + " " + twoPlan + " -",
	} {
		p.follows(line)
	}
	if w := p.m.State().Windows; w[0].Active != 1 || w[0].Cells[0].Pane != 2 || w[1].Cells[0].Pane != 1 {
		t.Errorf("the windows are %+v", w)
	}
}

// A pane is added whether or not it stands in a layout, once.
func TestM3PaneAdd(t *testing.T) {
	begun(t).follows("%window-add @1 a", "%layout-change @1 "+onePlan+" "+onePlan+" -", "%pane-add %1 3").feeds(api.Feed{Pane: 1, Start: 3, End: 3})
	begun(t).follows("%pane-add %1 3", "%pane-add %2 3", "%pane-add %4611686018427387904 4611686018427387904").feeds(
		api.Feed{Pane: 1, Start: 3, End: 3}, api.Feed{Pane: 2, Start: 3, End: 3}, api.Feed{Pane: api.MaxNumber, Start: api.MaxNumber, End: api.MaxNumber})
	for _, line := range []string{"%pane-add %1 7", "%pane-add %1 0", "%pane-add %2 0", "%pane-add %2 9"} {
		greeted(t).breaks(line)
	}
	p := begun(t).follows("%pane-add %1 3", "%output %1 ab", "%pause %1 9")
	p.twin().breaks("%pane-add %1 9")
	p.follows("%pane-close %1").feeds().follows("%pane-add %1 4").feeds(api.Feed{Pane: 1, Start: 4, End: 4})
}

// A pane goes, with all that came of it, if it has a feed and stands in no layout.
func TestM3PaneClose(t *testing.T) {
	p := greeted(t).follows("%output %1 abc", "%pause %2 5")
	p.twin().breaks("%pane-close %1")
	p.twin().breaks("%pane-close %2")
	p.twin().breaks("%pane-close %3")
	p.follows("%layout-change @1 " + onePlan + " " + onePlan + " -").twin().breaks("%pane-close %1")
	p.follows("%pane-close %2").feeds(api.Feed{Pane: 1, Start: 7, End: 10, Text: "abc"})
	p.twin().breaks("%pane-close %2")
	p.twin().breaks("%output %2 a")
	p.twin().breaks("%continue %2 5")
	p.follows("%session-close $1", "%window-close @1", "%pane-close %1").feeds().state(api.State{})
	// A pane that stands in no layout, and has no feed, goes by nothing: delta would take it.
	begun(t).breaks("%pane-close %1")
	begun(t).follows("%pane-add %2 0").breaks("%pane-close %1")
	// A pane of a layout goes by nothing, whether or not it was added.
	begun(t).follows("%window-add @1 a", "%layout-change @1 "+onePlan+" "+onePlan+" -").breaks("%pane-close %1")
	// A pane of two windows that leaves one of them is there still.
	two := begun(t).follows("%pane-add %1 0", "%window-add @1 a", "%window-add @2 b", "%layout-change @1 "+onePlan+" "+onePlan+" -", "%layout-change @2 "+onePlan+" "+onePlan+" -", "%window-close @1")
	two.twin().breaks("%pane-close %1")
	two.follows("%window-close @2", "%pane-close %1")
}
