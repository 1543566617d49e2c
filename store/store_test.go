package store

import (
	"math"
	"math/rand"
	"strings"
	"testing"

	"mullion/api"
)

func small(t *testing.T) *desk { return newDesk(t, api.Config{W: 80, H: 24, Tail: 10}) }

// Short forms of the calls that most tests begin with.

func newSession(name string) call { return call{name: "NewSession", text: name} }

func newWindow(session, index int) call { return call{name: "NewWindow", a: session, b: index} }

func link(session, index, window int) call {
	return call{name: "Link", a: session, b: index, c: window}
}

func choose(session, index int) call { return call{name: "Choose", a: session, b: index} }

func choosePane(pane int) call { return call{name: "ChoosePane", a: pane} }

func splitRow(pane int) call { return call{name: "Split", a: pane, b: api.CellRow} }

func splitCol(pane int) call { return call{name: "Split", a: pane, b: api.CellCol} }

// chosen is the same call, with its last flag.
func chosen(c call) call {
	if c.name == "Split" || c.name == "Join" {
		c.also = true
	} else {
		c.yes = true
	}
	return c
}

// named is the same call with a name.
func named(c call, name string) call {
	c.text = name
	return c
}

func (d *desk) all(calls ...call) *desk {
	d.t.Helper()
	for _, c := range calls {
		d.must(c)
	}
	return d
}

func TestS1New(t *testing.T) {
	odd := []int{math.MinInt, -api.MaxNumber, -1, 0, 1, 2, 80, 999, 1000, 1001, 65535, 65536, 65537, api.MaxNumber, math.MaxInt}
	for _, w := range odd {
		for _, h := range odd {
			for _, limit := range odd {
				c := api.Config{W: w, H: h, Tail: limit}
				may := 1 <= w && w <= 1000 && 1 <= h && h <= 1000 && 1 <= limit && limit <= 65536
				s, err := New(c)
				switch {
				case !may && (s != nil || err != api.ErrArg):
					t.Fatalf("New(%v): nil is %v, error %d; want nil and ErrArg", c, s == nil, err)
				case may && (s == nil || err != api.OK):
					t.Fatalf("New(%v): nil is %v, error %d; want a store", c, s == nil, err)
				}
				if s == nil {
					continue
				}
				if s.Config() != c {
					t.Fatalf("Config() = %v; want %v", s.Config(), c)
				}
				if x := s.State(); len(x.Sessions)+len(x.Windows) != 0 {
					t.Fatalf("a new store holds %v", x)
				}
			}
		}
	}
}

// The first of each kind has the id 1; a new window has the size, and a pane's logs the limit, that New was given.
func TestS1TheConfigurationHolds(t *testing.T) {
	for _, c := range []api.Config{{W: 1, H: 1, Tail: 1}, {W: 1000, H: 1000, Tail: 65536}, {W: 1, H: 1000, Tail: 3}} {
		d := newDesk(t, c)
		if a := d.must(newSession("")); a.place != (api.Place{Session: 1, Index: 0, Window: 1, Pane: 1}) {
			t.Fatalf("the first session: %v", a.place)
		}
		if w := d.s.State().Windows[0]; len(w.Cells) != 1 || w.Cells[0].W != c.W || w.Cells[0].H != c.H {
			t.Errorf("%v: the first window: %v", c, w.Cells)
		}
		text := strings.Repeat("x", c.Tail) + "y"
		d.all(call{name: "Write", a: 1, text: text}, call{name: "Type", a: 1, text: text}, call{name: "Typed", a: 1}, call{name: "Extent", a: 1})
		if from, to, _ := d.s.Extent(1); from != 1 || to != c.Tail+1 {
			t.Errorf("%v: the log keeps %d..%d", c, from, to)
		}
		if keys, _ := d.s.Typed(1); keys != text[1:] {
			t.Errorf("%v: %d bytes of what was typed are kept", c, len(keys))
		}
		d.all(call{name: "RenameSession", a: 1, text: "a"}, call{name: "Resize", a: 1, b: 50, c: 50})
		if d.s.Config() != c {
			t.Errorf("the configuration has become %v", d.s.Config())
		}
	}
}

func TestS2ACloneIsAlone(t *testing.T) {
	d := small(t).all(newSession("a"), newSession("b"), chosen(newWindow(1, -1)), chosen(splitRow(3)), call{name: "Zoom", a: 4},
		link(2, 7, 1), call{name: "Write", a: 1, text: "hello"}, call{name: "Type", a: 1, text: "keys"})
	was := whole(d.s)
	if got := whole(d.s.Clone()); got != was {
		t.Fatalf("a clone of\n%s\nis\n%s", was, got)
	}
	changes := []call{
		{name: "Write", a: 1, text: "more"}, {name: "Type", a: 1, text: "more"}, {name: "Write", a: 1, text: strings.Repeat("long", 10)},
		{name: "RenameSession", a: 1, text: "other"}, {name: "RenameWindow", a: 1, text: "other"}, {name: "CloseSession", a: 1},
		{name: "CloseWindow", a: 3}, {name: "ClosePane", a: 4}, newSession("new"), newWindow(2, 3), splitCol(1), link(1, 9, 2),
		{name: "Unlink", a: 2, b: 0}, {name: "Unlink", a: 1, b: 0}, {name: "Move", a: 1, b: 0, c: 1, d: 5}, {name: "Move", a: 1, b: 0, c: 2, d: 5},
		{name: "Exchange", a: 1, b: 0, c: 1, d: 1}, choose(1, 0), choosePane(3), {name: "Push", a: 3, b: api.CellRow, c: 3},
		{name: "Set", a: 3, b: api.CellRow, c: 3}, {name: "Resize", a: 3, b: 60, c: 20}, {name: "Zoom", a: 3}, {name: "Swap", a: 3, b: 4},
		{name: "Swap", a: 1, b: 4}, {name: "Arrange", a: 3, b: api.ArrEvenCol}, {name: "Break", a: 3, b: 1, c: 4}, {name: "Join", a: 1, b: 3, c: api.CellCol},
		{name: "Join", a: 3, b: 1, c: api.CellCol}, {name: "Lay", a: 1, cells: []api.Cell{{Kind: api.CellPane, W: 80, H: 24, Pane: 9}}},
	}
	for _, c := range changes {
		one, two := d.clone(), d.clone()
		one.must(c)
		if got := whole(two.s); got != was || whole(d.s) != was {
			t.Fatalf("%v on a clone is seen at its store, or at another clone:\n%s", c, got)
		}
		// A clone of a clone knows nothing of either, and goes on as both would.
		three := one.clone()
		two.must(c)
		if whole(two.s) != whole(one.s) || whole(three.s) != whole(one.s) {
			t.Fatalf("%v leads two clones to\n%s\nand\n%s", c, whole(one.s), whole(two.s))
		}
	}
	// The other way round: what is done with the store is not seen at the clone.
	left := d.clone()
	for _, c := range changes {
		d.do(c)
		if whole(left.s) != was {
			t.Fatalf("%v is seen at a clone", c)
		}
	}
}

// From any moment on, the same calls lead a store and its clone to the same.
func TestS2TheSameCallsLeadToTheSame(t *testing.T) {
	for seed := range 20 {
		d := newDesk(t, runConfigs()[seed%len(runConfigs())])
		deals := &dealer{r: rand.New(rand.NewSource(int64(seed))), b: d.b, closes: 20}
		for range 8 {
			for range 30 {
				d.do(deals.deal())
			}
			c := d.clone()
			was := whole(c.s)
			var calls []call
			var answers []answer
			for range 60 {
				calls = append(calls, deals.deal())
				answers = append(answers, d.do(calls[len(calls)-1]))
			}
			if whole(c.s) != was {
				t.Fatalf("the clone has become\n%s\nit was\n%s", whole(c.s), was)
			}
			for i, x := range calls {
				if a := c.do(x); a != answers[i] {
					t.Fatalf("%v answers %+v at the clone; at its store %+v", x, a, answers[i])
				}
			}
			if whole(c.s) != whole(d.s) {
				t.Fatalf("the clone has become\n%s\nits store\n%s", whole(c.s), whole(d.s))
			}
		}
	}
}

func TestS3StateBehindEachCall(t *testing.T) {
	d := small(t)
	d.is("")
	for _, x := range []struct {
		do   call
		want string
	}{
		{newSession("work"), "$1 work 0@1 now 0 last -1\n@1 sh 80x24%1 now 1 last 0"},
		{call{name: "NewSession", text: "b c", other: "v", a: 9, b: 7}, "$1 work 0@1 now 0 last -1\n$2 b c 0@2 now 0 last -1\n@1 sh 80x24%1 now 1 last 0\n@2 v 9x7%2 now 2 last 0"},
		{named(chosen(newWindow(1, 4)), "w"), "$1 work 0@1 4@3 now 4 last 0\n$2 b c 0@2 now 0 last -1\n@1 sh 80x24%1 now 1 last 0\n@2 v 9x7%2 now 2 last 0\n@3 w 80x24%3 now 3 last 0"},
		{link(1, 2, 2), "$1 work 0@1 2@2 4@3 now 4 last 0\n$2 b c 0@2 now 0 last -1\n@1 sh 80x24%1 now 1 last 0\n@2 v 9x7%2 now 2 last 0\n@3 w 80x24%3 now 3 last 0"},
		{call{name: "CloseSession", a: 2}, "$1 work 0@1 2@2 4@3 now 4 last 0\n@1 sh 80x24%1 now 1 last 0\n@2 v 9x7%2 now 2 last 0\n@3 w 80x24%3 now 3 last 0"},
		{choose(1, 2), "$1 work 0@1 2@2 4@3 now 2 last 4\n@1 sh 80x24%1 now 1 last 0\n@2 v 9x7%2 now 2 last 0\n@3 w 80x24%3 now 3 last 0"},
		{call{name: "CloseWindow", a: 2}, "$1 work 0@1 4@3 now 4 last -1\n@1 sh 80x24%1 now 1 last 0\n@3 w 80x24%3 now 3 last 0"},
		{chosen(splitRow(1)), "$1 work 0@1 4@3 now 4 last -1\n@1 sh 80x24{40x24%1 39x24%4} now 4 last 1\n@3 w 80x24%3 now 3 last 0"},
		{splitCol(4), "$1 work 0@1 4@3 now 4 last -1\n@1 sh 80x24{40x24%1 39x24[39x12%4 39x11%5]} now 4 last 1\n@3 w 80x24%3 now 3 last 0"},
		{call{name: "Zoom", a: 5}, "$1 work 0@1 4@3 now 4 last -1\n@1 sh 80x24{40x24%1 39x24[39x12%4 39x11%5]} now 5 last 4 zoom\n@3 w 80x24%3 now 3 last 0"},
		{call{name: "Resize", a: 1, b: 82, c: 24}, "$1 work 0@1 4@3 now 4 last -1\n@1 sh 82x24{41x24%1 40x24[40x12%4 40x11%5]} now 5 last 4 zoom\n@3 w 80x24%3 now 3 last 0"},
		{call{name: "Swap", a: 3, b: 4}, "$1 work 0@1 4@3 now 4 last -1\n@1 sh 82x24{41x24%1 40x24[40x12%3 40x11%5]} now 5 last 3\n@3 w 80x24%4 now 4 last 0"},
		{call{name: "Break", a: 5, b: 1, c: -1, text: "own"}, "$1 work 0@1 1@4 4@3 now 4 last -1\n@1 sh 82x24{41x24%1 40x24%3} now 3 last 0\n@3 w 80x24%4 now 4 last 0\n@4 own 82x24%5 now 5 last 0"},
		{call{name: "Join", a: 4, b: 5, c: api.CellCol, d: 3, yes: true}, "$1 work 0@1 1@4 now 1 last -1\n@1 sh 82x24{41x24%1 40x24%3} now 3 last 0\n@4 own 82x24[82x3%4 82x20%5] now 5 last 0"},
		{call{name: "Move", a: 1, b: 1, c: 1, d: 9}, "$1 work 0@1 9@4 now 9 last -1\n@1 sh 82x24{41x24%1 40x24%3} now 3 last 0\n@4 own 82x24[82x3%4 82x20%5] now 5 last 0"},
		{call{name: "Exchange", a: 1, b: 0, c: 1, d: 9}, "$1 work 0@4 9@1 now 9 last -1\n@1 sh 82x24{41x24%1 40x24%3} now 3 last 0\n@4 own 82x24[82x3%4 82x20%5] now 5 last 0"},
		{call{name: "Unlink", a: 1, b: 9}, "$1 work 0@4 now 0 last -1\n@4 own 82x24[82x3%4 82x20%5] now 5 last 0"},
		{call{name: "RenameWindow", a: 4, text: "x"}, "$1 work 0@4 now 0 last -1\n@4 x 82x24[82x3%4 82x20%5] now 5 last 0"},
		{call{name: "ClosePane", a: 4}, "$1 work 0@4 now 0 last -1\n@4 x 82x24%5 now 5 last 0"},
		{call{name: "ClosePane", a: 5}, ""},
		{newSession(""), "$3 3 0@5 now 0 last -1\n@5 sh 80x24%6 now 6 last 0"},
	} {
		d.must(x.do)
		d.is(x.want)
	}
}
