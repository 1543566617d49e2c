package target

import (
	"math"
	"testing"

	"mullion/api"
)

func wantHome(t *testing.T, s api.State, here, window int, want api.Place, is bool) {
	t.Helper()
	if got, ok := Home(s, here, window); got != want || ok != is {
		t.Errorf("Home of %d, here %d: %v, %v, and not %v, %v", window, here, got, ok, want, is)
	}
}

func TestT1Home(t *testing.T) {
	s := rich()
	for _, c := range []struct {
		here, window int
		want         api.Place
	}{
		{3, 2, place(3, 4, 2, 4)},      // at one index of the session here
		{3, 5, place(3, 1, 5, 6)},      // at three
		{8, 2, place(8, 5, 2, 4)},      // here is not the lowest
		{8, 8, place(8, 3, 8, 7)},      // all but one show it
		{4, 8, place(4, 9, 8, 7)},      // so do those ahead and behind
		{10, 8, place(3, 9, 8, 7)},     // linked in others alone: the lowest of them
		{10, 5, place(3, 1, 5, 6)},     // at several indices of the lowest
		{4, 9, place(8, 0, 9, 20)},     // the lowest that has it is not the first one
		{10, 9, place(10, 2, 9, 20)},   // here has it, and a lower one too
		{3, 11, place(10, 6, 11, 30)},  // the last one alone has it
		{0, 8, place(3, 9, 8, 7)},      // in no session
		{-1, 9, place(8, 0, 9, 20)},    // nor by a number that is no id
		{99, 11, place(10, 6, 11, 30)}, // nor by one that is not there
		{math.MaxInt, 2, place(3, 4, 2, 4)},
	} {
		wantHome(t, s, c.here, c.window, c.want, true)
	}
}

func TestT1NoSuchWindow(t *testing.T) {
	for _, window := range []int{0, -1, 1, 3, 12, math.MinInt, math.MaxInt} {
		for _, here := range []int{3, 4, 10, 0} {
			wantHome(t, rich(), here, window, api.Place{}, false)
		}
	}
	wantHome(t, api.State{}, 1, 1, api.Place{}, false)
}

// noStates are near a state that may be.
func noStates() []api.State {
	var all []api.State
	for _, spoil := range []func(s *api.State){
		func(s *api.State) { s.Sessions[0].Current = 7 },
		func(s *api.State) { s.Sessions[0].Last = 2 },
		func(s *api.State) { s.Sessions[1].Name = "work" },
		func(s *api.State) { s.Sessions[1].Id = 1 },
		func(s *api.State) { s.Sessions[1].Links = nil },
		func(s *api.State) { s.Sessions[0].Links[1].Window = 3 },
		func(s *api.State) { s.Sessions = nil },
		func(s *api.State) { s.Windows = s.Windows[:1] },
		func(s *api.State) { s.Windows[0].Name = "a:b" },
		func(s *api.State) { s.Windows[1].Active = 1 },
		func(s *api.State) { s.Windows[1].Last = 3 },
		func(s *api.State) { s.Windows[0].Cells = nil },
		func(s *api.State) { s.Windows[0].Zoom = true },
	} {
		s := example()
		spoil(&s)
		all = append(all, s)
	}
	return all
}

func TestT1NoState(t *testing.T) {
	for _, s := range noStates() {
		for _, window := range []int{1, 2, 9} {
			wantHome(t, s, 1, window, api.Place{}, false)
		}
	}
}

func TestT1ByChance(t *testing.T) {
	m := newMaker(1)
	for range 2000 {
		s := m.state()
		here := m.session(s)
		for window := range 11 {
			want, is := homeIn(rowsOf(s), here, window)
			wantHome(t, s, here, window, want.Place, is)
		}
	}
}
