package target

import (
	"fmt"
	"slices"
	"testing"

	"mullion/api"
	"mullion/layout"
)

// isPlaceOf tells whether a place is one of a state; free: whether its index may be free.
func isPlaceOf(s api.State, p api.Place, free bool) bool {
	for _, x := range s.Sessions {
		if x.Id != p.Session {
			continue
		}
		for _, l := range x.Links {
			if l.Index == p.Index {
				return l.Window == p.Window && slices.ContainsFunc(s.Windows, func(w api.Window) bool {
					return w.Id == p.Window && slices.Contains(layout.Panes(w.Cells), p.Pane)
				})
			}
		}
		return free && p.Index >= -1 && p.Index <= api.MaxIndex && p.Window == 0 && p.Pane == 0
	}
	return false
}

func TestT8APlaceOfTheState(t *testing.T) {
	m := newMaker(81)
	good := 0
	for range 2000 {
		s := m.state()
		for range 40 {
			here, text, mean := m.session(s), m.text(s), 1+m.Intn(4)
			p, err := Find(s, here, text, mean)
			if err == api.OK {
				good++
			}
			if (err == api.OK) != isPlaceOf(s, p, mean == api.MeanIndex) || err != api.OK && p != (api.Place{}) {
				t.Fatalf("%q as %d, here %d: %v, error %d, in\n%+v", text, mean, here, p, err, s)
			}
		}
	}
	if good < 20000 {
		t.Errorf("%d places alone", good)
	}
}

func TestT8PanesMeanThemselves(t *testing.T) {
	m := newMaker(82)
	for range 500 {
		s := m.state()
		here := m.session(s)
		for _, w := range s.Windows {
			home, ok := Home(s, here, w.Id)
			if !ok || !isPlaceOf(s, home, false) || home.Pane != w.Active {
				t.Fatalf("Home of %d, here %d: %v, %v, in\n%+v", w.Id, here, home, ok, s)
			}
			for _, mean := range allMeans() {
				finder{t, s, here}.means(fmt.Sprint("@", w.Id), mean, home)
				for _, pane := range layout.Panes(w.Cells) {
					finder{t, s, here}.means(fmt.Sprint("%", pane), mean, place(home.Session, home.Index, w.Id, pane))
				}
			}
		}
	}
}

func TestT8SessionsMeanTheirCurrentWindows(t *testing.T) {
	m := newMaker(83)
	for range 500 {
		s := m.state()
		f := finder{t, s, m.session(s)}
		for _, x := range s.Sessions {
			window := x.Links[slices.IndexFunc(x.Links, func(l api.Link) bool { return l.Index == x.Current })].Window
			active := s.Windows[slices.IndexFunc(s.Windows, func(w api.Window) bool { return w.Id == window })].Active
			for _, text := range []string{fmt.Sprint("$", x.Id, ":"), "=" + x.Name + ":", x.Name + ":"} {
				for _, mean := range []int{api.MeanSession, api.MeanWindow, api.MeanPane} {
					f.means(text, mean, place(x.Id, x.Current, window, active))
				}
				f.means(text, api.MeanIndex, place(x.Id, -1, 0, 0))
			}
		}
	}
}
