package delta

import (
	"slices"
	"testing"

	"mullion/api"
)

// odd is a state whose lists do not rise, and in which ids and indices stand twice.
func odd() api.State {
	return state(
		session(5, "first 5", 9, link0(7, 2), link0(3, 1), link0(7, 4), link0(1, 1)),
		session(2, "first 2", 0),
		session(5, "second 5", 0, link0(2, 9)),
		session(2, "second 2", 0, link0(2, 9)),
		window(4, "first 4", side(1, 2)),
		window(1, "first 1", side(3, 4)),
		window(4, "second 4", side(1, 5)),
		window(9, "first 9", side(3)),
		window(1, "second 1", side(6)),
	)
}

func TestP83ListsThatDoNotRise(t *testing.T) {
	for id, at := range map[int]int{1: 0, 3: 0, 4: 0, 6: 4, 100: 4} {
		applied(t, odd(), api.Event{Kind: api.EvSessionAdd, Session: id, Name: "x"}, func(s *api.State) {
			s.Sessions = slices.Insert(s.Sessions, at, session(id, "x", -1))
		})
	}
	for id, at := range map[int]int{2: 0, 3: 0, 5: 3, 8: 3, 10: 5} {
		applied(t, odd(), api.Event{Kind: api.EvWindowAdd, Window: id, Name: "x"}, func(s *api.State) {
			s.Windows = slices.Insert(s.Windows, at, api.Window{Id: id, Name: "x"})
		})
	}
	for index, at := range map[int]int{0: 0, 2: 0, 6: 0, 8: 4, 9999: 4} {
		applied(t, odd(), api.Event{Kind: api.EvLink, Session: 5, Index: index, Window: 9}, func(s *api.State) {
			s.Sessions[0].Links = slices.Insert(s.Sessions[0].Links, at, link0(index, 9))
		})
	}
}

func TestP83TheFirstIsMeant(t *testing.T) {
	applied(t, odd(), api.Event{Kind: api.EvSessionRenamed, Session: 5, Name: "x"}, func(s *api.State) { s.Sessions[0].Name = "x" })
	applied(t, odd(), api.Event{Kind: api.EvSessionRenamed, Session: 2, Name: "x"}, func(s *api.State) { s.Sessions[1].Name = "x" })
	applied(t, odd(), api.Event{Kind: api.EvSessionClose, Session: 5}, func(s *api.State) { s.Sessions = s.Sessions[1:] })
	applied(t, odd(), api.Event{Kind: api.EvLink, Session: 2, Index: 2, Window: 4}, func(s *api.State) { s.Sessions[1].Links = []api.Link{link0(2, 4)} })
	applied(t, odd(), api.Event{Kind: api.EvUnlink, Session: 5, Index: 7}, func(s *api.State) { s.Sessions[0].Links = s.Sessions[0].Links[1:] })
	applied(t, odd(), api.Event{Kind: api.EvSessionWindow, Session: 5, Index: 1}, func(s *api.State) { s.Sessions[0].Current = 1 })
	for _, kind := range []int{api.EvUnlink, api.EvSessionWindow} { // the second one has a link at 2
		refused(t, odd(), api.Event{Kind: kind, Session: 5, Index: 2})
		refused(t, odd(), api.Event{Kind: kind, Session: 2, Index: 2})
	}
	applied(t, odd(), api.Event{Kind: api.EvWindowRenamed, Window: 1, Name: "x"}, func(s *api.State) { s.Windows[1].Name = "x" })
	applied(t, odd(), api.Event{Kind: api.EvPaneChanged, Window: 4, Pane: 1}, func(s *api.State) { s.Windows[0].Active = 1 })
	refused(t, odd(), api.Event{Kind: api.EvPaneChanged, Window: 4, Pane: 5})
	refused(t, odd(), api.Event{Kind: api.EvPaneChanged, Window: 1, Pane: 6})
	p := text(side(7))
	applied(t, odd(), layoutEvent(1, p, p, false), func(s *api.State) { s.Windows[1].Cells = side(7) })
	refused(t, odd(), api.Event{Kind: api.EvPaneAdd, Pane: 5})
	refused(t, odd(), api.Event{Kind: api.EvPaneAdd, Pane: 6})
	refused(t, odd(), api.Event{Kind: api.EvSessionAdd, Session: 5, Name: "x"})
	refused(t, odd(), api.Event{Kind: api.EvWindowAdd, Window: 1, Name: "x"})
	refused(t, odd(), api.Event{Kind: api.EvWindowClose, Window: 9})
	s := odd()
	s.Sessions = s.Sessions[1:2]
	applied(t, s, api.Event{Kind: api.EvWindowClose, Window: 1}, func(s *api.State) { s.Windows = slices.Delete(s.Windows, 1, 2) })
	applied(t, s, api.Event{Kind: api.EvWindowClose, Window: 4}, func(s *api.State) { s.Windows = s.Windows[1:] })
}

// What has an id or an index that may not be can be spoken of, if it is there; it can't be added.
func TestP83NumbersThatMayNotBe(t *testing.T) {
	s := state(
		session(-1, "", -5, link0(-5, 0), link0(10000, -2)),
		window(0, "", side(1)),
		api.Window{Id: -2, Cells: side(2, 3)},
	)
	applied(t, s, api.Event{Kind: api.EvSessionRenamed, Session: -1, Name: "x"}, func(s *api.State) { s.Sessions[0].Name = "x" })
	applied(t, s, api.Event{Kind: api.EvWindowRenamed, Name: "x"}, func(s *api.State) { s.Windows[0].Name = "x" })
	applied(t, s, api.Event{Kind: api.EvUnlink, Session: -1, Index: -5}, func(s *api.State) { s.Sessions[0].Links = s.Sessions[0].Links[1:] })
	applied(t, s, api.Event{Kind: api.EvSessionWindow, Session: -1, Index: 10000}, func(s *api.State) { s.Sessions[0].Current = 10000 })
	applied(t, s, api.Event{Kind: api.EvLink, Session: -1, Index: 7, Window: -2}, func(s *api.State) {
		s.Sessions[0].Links = slices.Insert(s.Sessions[0].Links, 1, link0(7, -2))
	})
	applied(t, s, api.Event{Kind: api.EvPaneChanged, Window: -2, Pane: 2}, func(s *api.State) { s.Windows[1].Active = 2 })
	applied(t, s, api.Event{Kind: api.EvSessionClose, Session: -1}, func(s *api.State) { s.Sessions = nil })
	refused(t, s, api.Event{Kind: api.EvWindowClose})
	refused(t, s, api.Event{Kind: api.EvWindowClose, Window: -2})
	refused(t, s, api.Event{Kind: api.EvLink, Session: -1, Index: -4, Window: -2})
	refused(t, s, api.Event{Kind: api.EvLink, Session: -1, Index: 10001, Window: -2})
}

// What a state must be to be valid is not asked.
func TestP83MoreThanMayBe(t *testing.T) {
	full := fullState()
	applied(t, full, api.Event{Kind: api.EvSessionAdd, Session: 1, Name: full.Sessions[0].Name}, func(s *api.State) {
		s.Sessions = slices.Insert(s.Sessions, 0, session(1, full.Sessions[0].Name, -1))
	})
	applied(t, full, api.Event{Kind: api.EvWindowAdd, Window: 1, Name: "x"}, func(s *api.State) {
		s.Windows = slices.Insert(s.Windows, 0, api.Window{Id: 1, Name: "x"})
	})
	applied(t, full, api.Event{Kind: api.EvLink, Session: api.MaxNumber, Index: 0, Window: api.MaxNumber}, func(s *api.State) {
		s.Sessions[7].Links = slices.Insert(s.Sessions[7].Links, 0, link0(0, api.MaxNumber))
	})
	applied(t, full, api.Event{Kind: api.EvPaneAdd, Pane: 1}, unchanged)
	applied(t, full, api.Event{Kind: api.EvSessionRenamed, Session: api.MaxNumber, Name: full.Sessions[0].Name}, func(s *api.State) {
		s.Sessions[7].Name = full.Sessions[0].Name
	})
	many := crowd(1, 1, 1, 32).Windows[0].Cells
	for _, id := range []int{api.MaxNumber, api.MaxNumber - 1} {
		full, _ = Apply(full, layoutEvent(id, text(many), text(many), false))
	}
	if !slices.Equal(full.Windows[14].Cells, many) || !slices.Equal(full.Windows[15].Cells, many) {
		t.Errorf("two windows with the same 32 panes:\n%s", show(full))
	}
}

// A window and a session on their way, step by step.
func TestP83OnTheWay(t *testing.T) {
	s := api.State{}
	step := func(e api.Event, want api.State) {
		t.Helper()
		next, err := Apply(s, e)
		if err != api.OK || !same(next, want) {
			t.Fatalf("behind %+v, error %d:\n%swant\n%s", e, err, show(next), show(want))
		}
		s = next
	}
	bare := api.Window{Id: 3, Name: "sh"}
	step(api.Event{Kind: api.EvWindowAdd, Window: 3, Name: "sh"}, state(bare))
	refused(t, s, api.Event{Kind: api.EvPaneChanged, Window: 3})
	refused(t, s, api.Event{Kind: api.EvPaneChanged, Window: 3, Pane: 1})
	p := text(side(1, 2))
	bare.Cells = side(1, 2)
	step(layoutEvent(3, p, p, false), state(bare))
	bare.Active = 2
	step(api.Event{Kind: api.EvPaneChanged, Window: 3, Pane: 2}, state(bare))
	empty := session(2, "s", -1)
	step(api.Event{Kind: api.EvSessionAdd, Session: 2, Name: "s"}, state(empty, bare))
	refused(t, s, api.Event{Kind: api.EvSessionWindow, Session: 2, Index: -1})
	refused(t, s, api.Event{Kind: api.EvSessionWindow, Session: 2, Index: 0})
	empty.Links = []api.Link{link0(0, 3)}
	step(api.Event{Kind: api.EvLink, Session: 2, Window: 3}, state(empty, bare))
	empty.Current = 0
	step(api.Event{Kind: api.EvSessionWindow, Session: 2}, state(empty, bare))
	if !Valid(s) {
		t.Errorf("at the end there is\n%s", show(s))
	}
	empty.Links = nil
	step(api.Event{Kind: api.EvUnlink, Session: 2}, state(empty, bare))
	step(api.Event{Kind: api.EvWindowClose, Window: 3}, state(empty))
	step(api.Event{Kind: api.EvSessionClose, Session: 2}, api.State{})
}

// All kinds of events over all kinds of states; each kind must have followed, and must have been refused.
func TestP83ByChance(t *testing.T) {
	m := newMaker(833)
	count := map[int]map[bool]int{}
	for _, kind := range thirteen() {
		count[kind] = map[bool]int{}
	}
	for range 4000 {
		s := m.anyState()
		for range 12 {
			e := m.anyEvent(s)
			if m.chance(80) {
				e.Kind = pick(m, thirteen()...)
			}
			if adds := e.Kind == api.EvSessionAdd || e.Kind == api.EvWindowAdd; adds && m.chance(60) {
				e.Session, e.Window = m.some(1, 10)[0], m.some(1, 20)[0]
			}
			want, ok := behind(s, e)
			got, err := Apply(s, e)
			if ok != (err == api.OK) || !ok && err != api.ErrApply {
				t.Fatalf("Apply of %+v answers error %d, want %v, over\n%s", e, err, ok, show(s))
			}
			if !ok {
				want = api.State{}
			}
			if !same(got, want) {
				t.Fatalf("behind %+v there is\n%swant\n%sover\n%s", e, show(got), show(want), show(s))
			}
			if count[e.Kind] != nil {
				count[e.Kind][ok]++
			}
			if ok && m.chance(50) {
				s = got
			}
		}
	}
	for kind, n := range count {
		if n[true] < 100 || n[false] < 300 {
			t.Errorf("events of kind %d are too much alike: %v", kind, n)
		}
	}
}
