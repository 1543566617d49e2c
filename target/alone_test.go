package target

import (
	"fmt"
	"math"
	"strings"
	"sync"
	"testing"

	"mullion/api"
)

func TestRule1EveryCallEnds(t *testing.T) {
	m := newMaker(11)
	for range 3000 {
		s := m.state()
		here, text := pick(m, m.session(s), m.Int(), math.MinInt, math.MaxInt), m.text(s)+m.odd()
		m.spoil(&s)
		hold(t, s, here, text, m.Intn(7)-1)
		Home(s, here, pick(m, m.Intn(12), math.MinInt, math.MaxInt))
	}
}

// spoil makes most states ones that may not be.
func (m maker) spoil(s *api.State) {
	for range m.Intn(3) {
		if len(s.Sessions) == 0 || len(s.Windows) == 0 {
			return
		}
		x, w := &s.Sessions[m.Intn(len(s.Sessions))], &s.Windows[m.Intn(len(s.Windows))]
		odd := pick(m, -1, 0, 1, 2, 99, math.MaxInt, math.MinInt)
		switch m.Intn(10) {
		case 0:
			x.Id = odd
		case 1:
			x.Links = nil
		case 2:
			x.Current = odd
		case 3:
			x.Last = odd
		case 4:
			x.Name = m.odd()
		case 5:
			w.Cells = w.Cells[:len(w.Cells)/2]
		case 6:
			w.Active = odd
		case 7:
			w.Last = odd
		case 8:
			w.Id = odd
		case 9:
			s.Windows = nil
		}
	}
}

func TestRule1GreatTexts(t *testing.T) {
	for _, piece := range []string{"w", "*", "?", "[", "[a", "]", "*w", `\`, ":", ".", "%", "@", "$", "=", "+", "-", "!", "9", "0", "{left-of}", "\xff"} {
		text := strings.Repeat(piece, 1<<12)
		for _, mean := range allMeans() {
			for _, f := range []string{text, ":" + text, "." + text, text + ":", "+" + text, "%" + text, ":+1" + text, "=" + text} {
				if got := found(rich(), 3, f, mean); got.err != api.OK && got.Place != (api.Place{}) {
					t.Errorf("%q ...: %v", f[:9], got)
				}
			}
		}
	}
	// Many stars match what one does.
	finder{t, named("a", "b"), 1}.means(strings.Repeat("*", 1<<16)+"b", api.MeanSession, place(2, 0, 2, 2))
}

func TestRule1FullState(t *testing.T) {
	var s api.State
	for i := range 8 {
		s.Sessions = append(s.Sessions, session(i+1, fmt.Sprint("s", i), 0, -1))
		for j := range 4 {
			s.Sessions[i].Links = append(s.Sessions[i].Links, link(j, (i*4+j)/2+1))
		}
	}
	for i := range 16 {
		s.Windows = append(s.Windows, window(i+1, fmt.Sprint("w", i), 2*i+1, 2*i+2, 2*i+1, 2*i+2))
	}
	s.Sessions[7].Id, s.Sessions[7].Links[3].Index, s.Sessions[7].Current = api.MaxNumber, api.MaxIndex, api.MaxIndex
	f := finder{t, s, api.MaxNumber}
	f.means("", api.MeanPane, place(api.MaxNumber, 9999, 16, 31))
	f.means("$4611686018427387904:", api.MeanPane, place(api.MaxNumber, 9999, 16, 31))
	f.means("!", api.MeanPane, place(api.MaxNumber, 9999, 16, 32))
	f.means("+", api.MeanWindow, place(api.MaxNumber, 0, 15, 29))
	f.fails("w", api.MeanWindow, api.ErrMany)
	f.fails("s", api.MeanSession, api.ErrMany)
}

// What is handed in stays as it is, spare room too.
func TestRule3ArgumentsStay(t *testing.T) {
	m := newMaker(13)
	for range 500 {
		s := m.state()
		for i := range s.Sessions {
			s.Sessions[i].Links = append(s.Sessions[i].Links, link(77, 77))[:len(s.Sessions[i].Links)]
		}
		for i := range s.Windows {
			s.Windows[i].Cells = append(s.Windows[i].Cells, api.Cell{Pane: 77})[:len(s.Windows[i].Cells)]
		}
		shown := shownWhole(s)
		for range 10 {
			Find(s, m.session(s), m.text(s), 1+m.Intn(4))
			Home(s, m.session(s), m.Intn(10))
		}
		if shownWhole(s) != shown {
			t.Fatalf("what was handed in has changed: %s, and not %s", shownWhole(s), shown)
		}
	}
}

func shownWhole(s api.State) string {
	text := fmt.Sprintf("%+v", s)
	for _, x := range s.Sessions {
		text += fmt.Sprint(x.Links[:len(x.Links)+1])
	}
	for _, w := range s.Windows {
		text += fmt.Sprint(w.Cells[:len(w.Cells)+1])
	}
	return text
}

// The same arguments, handed in by many goroutines at once and in any order, get the same answers.
func TestRule4AnswersHangOnArgumentsAlone(t *testing.T) {
	m := newMaker(14)
	type asked struct {
		state      api.State
		here, mean int
		text       string
	}
	var all []asked
	var want []answer
	for range 500 {
		s := m.state()
		a := asked{s, m.session(s), 1 + m.Intn(4), m.text(s)}
		all = append(all, a)
		want = append(want, expect(a.state, a.here, a.text, a.mean))
	}
	var group sync.WaitGroup
	for g := range 8 {
		group.Go(func() {
			for i := range all {
				at := (i*7 + g*61) % len(all)
				a := all[at]
				if got := found(a.state, a.here, a.text, a.mean); got != want[at] {
					t.Errorf("%q beside others: %v, and not %v", a.text, got, want[at])
					return
				}
			}
		})
	}
	group.Wait()
}
