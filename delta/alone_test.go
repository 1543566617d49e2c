package delta

import (
	"fmt"
	"runtime"
	"slices"
	"strings"
	"sync"
	"testing"
	"unsafe"

	"mullion/api"
)

// deep is a list of cells that stand in one another, so many.
func deep(n int) []api.Cell {
	var l []api.Cell
	for i := range n {
		l = append(l, api.Cell{Depth: i, Kind: api.CellRow + i%2, W: 1000, H: 1000})
	}
	return l
}

func TestRule1EveryCallEnds(t *testing.T) {
	m := newMaker(1)
	for range 2000 {
		a, b := m.anyState(), m.anyState()
		Valid(a)
		Plain(a)
		events, err := Diff(a, b)
		if want := len(broken(a))+len(broken(b)) == 0; want != (err == api.OK) || !want && (err != api.ErrState || len(events) > 0) {
			t.Fatalf("Diff answers %d events and error %d, from\n%sto\n%s", len(events), err, show(a), show(b))
		}
		Apply(b, m.anyEvent(a))
	}
}

func TestRule1GreatStates(t *testing.T) {
	var wide api.State
	for i := range 20000 {
		wide.Sessions = append(wide.Sessions, session(i+1, fmt.Sprint("s", i), 0, link0(0, i+1)))
		wide.Windows = append(wide.Windows, window(i+1, "w", sideOf(9, 9, i+1)))
	}
	far := state(session(1, "a", 0, make([]api.Link, 200000)...), window(1, "sh", side(1)))
	down := state(session(1, "a", 0, link0(0, 1)), api.Window{Id: 1, Name: "w", Cells: deep(1 << 15), Active: 1})
	long := one(window(1, strings.Repeat("x", 1<<20), side(1)))
	for i, s := range []api.State{wide, far, down, long} {
		if Valid(s) {
			t.Errorf("state %d may not be", i)
		}
		wantState(t, "Plain", Plain(s), plainOf(s))
		if _, err := Diff(s, work()); err != api.ErrState {
			t.Errorf("state %d: error %d", i, err)
		}
		for _, e := range append(fit(), api.Event{Kind: api.EvPaneAdd, Pane: 20000}) {
			want, ok := behind(s, e)
			got, err := Apply(s, e)
			if ok != (err == api.OK) || ok && !same(got, want) {
				t.Errorf("state %d, %+v: error %d", i, e, err)
			}
		}
	}
	e := api.Event{Kind: api.EvLayout, Window: 1, Layout: strings.Repeat("[", 1<<20), Visible: strings.Repeat("[", 1<<20)}
	refused(t, work(), e)
}

// A list or a text with the memory that it lies in, spare room too.
type stretch struct {
	from, to uintptr
	what     string
}

func ofList[T any](what string, l []T) stretch {
	var one T
	from := uintptr(unsafe.Pointer(unsafe.SliceData(l)))
	return stretch{from, from + uintptr(cap(l))*unsafe.Sizeof(one), what}
}

func ofText(what, s string) stretch {
	from := uintptr(unsafe.Pointer(unsafe.StringData(s)))
	return stretch{from, from + uintptr(len(s)), what}
}

func ofState(what string, s api.State) []stretch {
	all := []stretch{ofList(what+": sessions", s.Sessions), ofList(what+": windows", s.Windows)}
	for i, x := range s.Sessions {
		all = append(all, ofList(fmt.Sprint(what, ": links of session ", i), x.Links), ofText(fmt.Sprint(what, ": name of session ", i), x.Name))
	}
	for i, w := range s.Windows {
		all = append(all, ofList(fmt.Sprint(what, ": cells of window ", i), w.Cells), ofText(fmt.Sprint(what, ": name of window ", i), w.Name))
	}
	return all
}

func ofEvents(what string, l []api.Event) []stretch {
	all := []stretch{ofList(what, l)}
	for i, e := range l {
		of := fmt.Sprint(" of event ", i, " of ", what)
		all = append(all, ofText("Name"+of, e.Name), ofText("Text"+of, e.Text), ofText("Layout"+of, e.Layout), ofText("Visible"+of, e.Visible))
	}
	return all
}

// own gives a copy whose lists and texts each lie in memory of their own.
func own(s api.State) api.State {
	s = twin(s)
	for i := range s.Sessions {
		s.Sessions[i].Name = strings.Clone(s.Sessions[i].Name)
	}
	for i := range s.Windows {
		s.Windows[i].Name = strings.Clone(s.Windows[i].Name)
	}
	return s
}

func wantApart(t *testing.T, all []stretch) {
	t.Helper()
	slices.SortFunc(all, func(a, b stretch) int {
		if a.from != b.from {
			return int(int64(a.from) - int64(b.from))
		}
		return int(int64(a.to) - int64(b.to))
	})
	behind := stretch{}
	for _, s := range all {
		if s.from == s.to {
			continue
		}
		if s.from < behind.to {
			t.Fatalf("%s shares memory with %s", s.what, behind.what)
		}
		behind = s
	}
}

func TestRule3AnswersAreNewMemory(t *testing.T) {
	m := newMaker(3)
	for range 300 {
		a := own(m.state())
		b := own(m.near(a))
		if m.chance(50) {
			b = own(m.state())
		}
		shown := show(a) + show(b)
		plain, twice := Plain(a), Plain(a)
		events, again := mustDiff(t, a, b), mustDiff(t, a, b)
		all := slices.Concat(ofState("a", a), ofState("b", b), ofState("Plain", plain), ofState("Plain again", twice),
			ofEvents("Diff", events), ofEvents("Diff again", again))
		states := []api.State{plain}
		for i, e := range events {
			next, err := Apply(states[i], e)
			if err != api.OK {
				t.Fatal(err)
			}
			states = append(states, next)
			all = append(all, ofState(fmt.Sprint("behind event ", i), next)...)
		}
		wantApart(t, all)
		if show(a)+show(b) != shown {
			t.Fatal("what was handed in has changed")
		}
		// What is not held any longer could be made again at the same place.
		runtime.KeepAlive(a)
		runtime.KeepAlive(b)
		runtime.KeepAlive(twice)
		runtime.KeepAlive(again)
		runtime.KeepAlive(states)
	}
}

// Apply is asked over states of all kinds, with an event whose texts lie in memory of their own.
func TestRule3Apply(t *testing.T) {
	m := newMaker(33)
	for range 4000 {
		s := own(m.anyState())
		e := m.anyEvent(s)
		e.Name, e.Text, e.Layout, e.Visible = strings.Clone(e.Name), strings.Clone(e.Text), strings.Clone(e.Layout), strings.Clone(e.Visible)
		shown, held := show(s), fmt.Sprint(e)
		got, _ := Apply(s, e)
		again, _ := Apply(s, e)
		wantApart(t, slices.Concat(ofState("the state", s), ofEvents("the event", []api.Event{e})[1:], ofState("Apply", got), ofState("Apply again", again), ofState("Plain", Plain(s))))
		if show(s) != shown || fmt.Sprint(e) != held {
			t.Fatal("what was handed in has changed")
		}
		runtime.KeepAlive(s)
		runtime.KeepAlive(e)
		runtime.KeepAlive(again)
	}
}

// Lists with spare room are handed in: nothing is written there, and nothing of it comes back.
func TestRule3SpareRoom(t *testing.T) {
	s := own(rich())
	for i := range s.Sessions {
		s.Sessions[i].Links = append(s.Sessions[i].Links, link0(77, 77))[:len(s.Sessions[i].Links)]
	}
	for i := range s.Windows {
		s.Windows[i].Cells = append(s.Windows[i].Cells, api.Cell{Pane: 77})[:len(s.Windows[i].Cells)]
	}
	s.Sessions = append(s.Sessions, session(77, "x", 0))[:2]
	s.Windows = append(s.Windows, window(77, "x", side(77)))[:3]
	for _, e := range fit() {
		got, err := Apply(s, e)
		if err == api.OK {
			wantApart(t, append(ofState("the state", s), ofState("Apply", got)...))
		}
	}
	Plain(s)
	mustDiff(t, s, s)
	for i, x := range s.Sessions {
		if x.Links[:len(x.Links)+1][len(x.Links)] != link0(77, 77) {
			t.Errorf("the spare room of the links of session %d was written to", i)
		}
	}
	for i, w := range s.Windows {
		if w.Cells[:len(w.Cells)+1][len(w.Cells)] != (api.Cell{Pane: 77}) {
			t.Errorf("the spare room of the cells of window %d was written to", i)
		}
	}
	if s.Sessions[:3][2].Id != 77 || s.Windows[:4][3].Id != 77 {
		t.Error("the spare room of the sessions or windows was written to")
	}
}

// The same arguments, handed in by many goroutines at once, get the same answers.
func TestRule4ManyAtOnce(t *testing.T) {
	m := newMaker(4)
	var states []api.State
	for range 60 {
		states = append(states, m.state(), m.anyState())
	}
	ask := func(i int) string {
		a, b := states[i], states[(i+2)%len(states)]
		events, err := Diff(a, b)
		text := fmt.Sprint(Valid(a), show(Plain(a)), events, err)
		for _, e := range append(events, fit()...) {
			next, err := Apply(a, e)
			text += show(next) + fmt.Sprint(err)
		}
		return text
	}
	var want []string
	for i := range states {
		want = append(want, ask(i))
	}
	var all sync.WaitGroup
	for g := range 8 {
		all.Go(func() {
			for j := range states {
				i := (j*7 + g*13) % len(states)
				if ask(i) != want[i] {
					t.Errorf("another answer for state %d", i)
				}
			}
		})
	}
	all.Wait()
}
