package server

import (
	"math"
	"testing"

	"mullion/api"
	"mullion/store"
)

// Of every configuration New answers what store.New answers.
func TestP161Configurations(t *testing.T) {
	sides := []int{math.MinInt, -1, 0, 1, 2, 80, api.MaxSide, api.MaxSide + 1, math.MaxInt}
	tails := []int{math.MinInt, -1, 0, 1, 100, api.MaxTail, api.MaxTail + 1, math.MaxInt}
	taken := 0
	for _, w := range sides {
		for _, h := range sides {
			for _, tail := range tails {
				c := api.Config{W: w, H: h, Tail: tail}
				s, err := New(c)
				_, want := store.New(c)
				if err != want || (s == nil) != (err != api.OK) {
					t.Fatalf("New(%v): error %d and not %d, and nil is %v", c, err, want, s == nil)
				}
				may := w >= 1 && w <= 1000 && h >= 1 && h <= 1000 && tail >= 1 && tail <= 65536
				if may != (err == api.OK) || !may && err != api.ErrArg {
					t.Fatalf("New(%v): error %d", c, err)
				}
				if may {
					taken++
				}
			}
		}
	}
	if taken != 4*4*3 {
		t.Errorf("%d configurations are taken", taken)
	}
}

// A new server has no clients, nothing in its store, and the tick 0.
func TestP161New(t *testing.T) {
	s := made(t, plain())
	if now := s.State(); len(now.Sessions) != 0 || len(now.Windows) != 0 || len(s.Peers()) != 0 || s.Tick() != 0 {
		t.Errorf("a new server: %s", shown(s))
	}
	for _, pane := range []int{math.MinInt, -1, 0, 1, math.MaxInt} {
		if from, to, there := s.Extent(pane); from != 0 || to != 0 || there || s.Typed(pane) != "" {
			t.Errorf("pane %d: %d to %d, %v, typed %q", pane, from, to, there, s.Typed(pane))
		}
	}
	if vars := s.Vars(api.Place{Session: 1, Window: 1, Pane: 1}); len(vars) != 0 {
		t.Errorf("Vars: %v", vars)
	}
}

// The configuration is what new windows and panes are made by.
func TestP161TheConfigurationCounts(t *testing.T) {
	for _, c := range []api.Config{{W: 1, H: 1, Tail: 1}, {W: 33, H: 7, Tail: 5}, {W: 1000, H: 1000, Tail: 65536}} {
		p := pairOf(t, c).attach(2, 0).input(2, "new -d").output(1, "0123456789")
		cell := p.s.State().Windows[0].Cells[0]
		from, to, _ := p.s.Extent(1)
		if cell.W != c.W || cell.H != c.H || to != 10 || from != max(0, 10-c.Tail) {
			t.Errorf("of %v: %+v, %d to %d", c, cell, from, to)
		}
	}
}

func TestP162OtherKinds(t *testing.T) {
	p := working(t).attach(2, 100).output(1, "abc").input(1, "send a")
	for _, kind := range []int{math.MinInt, -2, -1, api.InNothing, api.InOpen, api.InKeys, api.InSee, api.InShut, 12, 13, math.MaxInt} {
		for _, e := range []api.Entry{{}, {Client: 1, Pane: 1, N: 5, Text: "ls\n"}, {Client: 3, Pane: 80, N: 24}, {Client: 9, Pane: 9, N: -1}} {
			e.Kind = kind
			p.step(e, api.ErrArg)
		}
	}
}

// Each of the seven kinds is taken, and a drain alone answers a text.
func TestP162SevenKinds(t *testing.T) {
	p := begun(t)
	for _, e := range []api.Entry{attaching(1, 9), sending(1, "new -d\n"), writing(1, "x"), ticking(), ending(1)} {
		p.step(e, api.OK)
	}
	if text := p.drain(1, 13); text != "%begin 0 0 0\n" {
		t.Errorf("drained: %q", text)
	}
	p.step(detaching(1), api.OK)
}

// What a kind does not name may be anything.
func TestP162FieldsThatAreNotNamed(t *testing.T) {
	odd := []api.Entry{{}, {Client: -1, Pane: -1, N: -1, Text: "x"}, {Client: 1, Pane: 1, N: 1, Text: "new\n"},
		{Client: 99, Pane: 99, N: math.MaxInt, Text: string(make([]byte, api.MaxChunk+1))}, {Client: math.MinInt, Pane: math.MinInt, N: math.MinInt}}
	for _, o := range odd {
		p, clean := begun(t), begun(t)
		for _, e := range []api.Entry{
			attaching(1, 500), sending(1, "new -s a\nsplitw\nrefresh -B w::#D\n"), attaching(2, 0), writing(2, "hello"), ticking(),
			draining(1, 30), draining(2, 7), ending(1), attaching(2, 1), attaching(3, -1), sending(3, ""), writing(9, ""), ending(9),
			draining(1, -1), detaching(2), detaching(2), draining(1, 9999),
		} {
			clean.play(e)
			switch e.Kind {
			case api.InAttach, api.InDrain:
				e.Pane, e.Text = o.Pane, o.Text
			case api.InInput:
				e.Pane, e.N = o.Pane, o.N
			case api.InDetach:
				e.Pane, e.N, e.Text = o.Pane, o.N, o.Text
			case api.InOutput:
				e.Client, e.N = o.Client, o.N
			case api.InDone:
				e.Client, e.N, e.Text = o.Client, o.N, o.Text
			case api.InTick:
				e.Client, e.Pane, e.N, e.Text = o.Client, o.Pane, o.N, o.Text
			}
			p.play(e)
			if shown(p.s) != shown(clean.s) {
				t.Fatalf("%.200s leads to\n%s\nand not to\n%s", telling(e), shown(p.s), shown(clean.s))
			}
		}
	}
}
