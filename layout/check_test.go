package layout

import (
	"math"
	"slices"
	"testing"

	"mullion/api"
)

// deep is a tree that has every kind of nesting: rows in columns in a row, and a column beside.
func deep() node {
	return rw(
		pn(1, 20, 15),
		cl(rw(pn(2, 10, 7), pn(3, 9, 7)), pn(4, 20, 3), pn(5, 20, 3)),
		cl(pn(6, 30, 5), rw(pn(7, 8, 9), cl(pn(8, 21, 4), pn(9, 21, 4)))),
	)
}

// manyPanes is a row of so many panes, each one place wide.
func manyPanes(n int) node {
	var kids []node
	for i := range n {
		kids = append(kids, pn(i+1, 1, 5))
	}
	return rw(kids...)
}

// staircase is as deep as a layout can be: each cut holds one pane and the next cut.
func staircase() node {
	n := pn(api.MaxPanes, 3, 3)
	for id := api.MaxPanes - 1; id >= 1; id-- {
		if id%2 == 0 {
			n = rw(pn(id, 2, n.h), n)
		} else {
			n = cl(pn(id, n.w, 2), n)
		}
	}
	return n
}

func goodTrees() []node {
	return []node{
		pn(1, 1, 1), pn(api.MaxNumber, api.MaxSide, api.MaxSide), pn(1, 80, 24),
		rw(pn(1, 40, 24), pn(2, 39, 24)), cl(pn(2, 80, 1), pn(1, 80, 22)),
		deep(), manyPanes(api.MaxPanes), staircase(),
		rw(pn(1, 499, 7), pn(2, 500, 7)), cl(pn(1, 7, 499), pn(2, 7, 500)),
	}
}

type badList struct {
	what string
	l    []api.Cell
}

// noLayouts breaks each point of 'A list is a layout', one at a time.
func noLayouts() []badList {
	change := func(n node, at int, how func(c *api.Cell)) []api.Cell {
		l := n.list()
		how(&l[at])
		return l
	}
	one, two := pn(1, 80, 24), rw(pn(1, 40, 24), pn(2, 39, 24))
	col := cl(pn(1, 80, 12), pn(2, 80, 11))
	three := rw(pn(1, 10, 5), pn(2, 10, 5), pn(3, 10, 5))
	nested := rw(pn(1, 10, 9), cl(pn(2, 10, 4), pn(3, 10, 4)))
	lone := func(kind int) []api.Cell { return node{kind: kind, w: 80, h: 24, kids: []node{one}}.list() }
	tooMany := manyPanes(api.MaxPanes + 1)
	tooManyCells := manyPanes(api.MaxPanes)
	for id := 100; id < 164; id++ {
		tooManyCells.kids = append(tooManyCells.kids, pn(id, 1, 5))
	}
	return []badList{
		{"the empty list", []api.Cell{}}, {"nil", nil},
		{"a root of depth 1", change(one, 0, func(c *api.Cell) { c.Depth = 1 })},
		{"a root of depth -1", change(one, 0, func(c *api.Cell) { c.Depth = -1 })},
		{"a root at X 1", change(one, 0, func(c *api.Cell) { c.X = 1 })},
		{"a root at X -1", change(one, 0, func(c *api.Cell) { c.X = -1 })},
		{"a root at Y 1", change(one, 0, func(c *api.Cell) { c.Y = 1 })},
		{"a root and all at X 1", shifted(two, 1, 0)},
		{"a root and all at Y 1", shifted(two, 0, 1)},
		{"a root of width 0", change(one, 0, func(c *api.Cell) { c.W = 0 })},
		{"a root of height 0", change(one, 0, func(c *api.Cell) { c.H = 0 })},
		{"a root of width -1", change(one, 0, func(c *api.Cell) { c.W = -1 })},
		{"a root too wide", pn(1, api.MaxSide+1, 24).list()},
		{"a root too high", pn(1, 80, api.MaxSide+1).list()},
		{"a row too wide", rw(pn(1, 500, 24), pn(2, 500, 24)).list()},
		{"a column too high", cl(pn(1, 80, 500), pn(2, 80, 500)).list()},
		{"a second root", append(one.list(), pn(2, 80, 24).list()...)},
		{"a cell of depth 0 behind", change(two, 2, func(c *api.Cell) { c.Depth = 0 })},
		{"a cell of depth -1 behind", change(two, 2, func(c *api.Cell) { c.Depth = -1 })},
		{"a depth two more", change(two, 1, func(c *api.Cell) { c.Depth = 2 })},
		{"a depth two more deep inside", change(nested, 3, func(c *api.Cell) { c.Depth = 3 })},
		{"a child of a pane", change(two, 2, func(c *api.Cell) { c.Depth = 2 })},
		{"a child of the only pane", append(one.list(), api.Cell{Depth: 1, Kind: api.CellPane, W: 80, H: 24, Pane: 2})},
		{"a child of a pane behind all", append(two.list(), api.Cell{Depth: 2, Kind: api.CellPane, X: 41, W: 39, H: 24, Pane: 3})},
		{"a kind 0", change(one, 0, func(c *api.Cell) { c.Kind = 0 })},
		{"a kind 4", change(one, 0, func(c *api.Cell) { c.Kind = 4 })},
		{"a kind -1 inside", change(two, 2, func(c *api.Cell) { c.Kind = -1 })},
		{"a kind 4 with children", change(two, 0, func(c *api.Cell) { c.Kind = 4 })},
		{"a row without children", change(one, 0, func(c *api.Cell) { c.Kind, c.Pane = api.CellRow, 0 })},
		{"a column without children", change(one, 0, func(c *api.Cell) { c.Kind, c.Pane = api.CellCol, 0 })},
		{"a row without children inside", change(two, 2, func(c *api.Cell) { c.Kind, c.Pane = api.CellCol, 0 })},
		{"a row of one child", lone(api.CellRow)},
		{"a column of one child", lone(api.CellCol)},
		{"a row in a row", rw(pn(1, 10, 5), rw(pn(2, 10, 5), pn(3, 10, 5))).list()},
		{"a column in a column", cl(cl(pn(1, 10, 5), pn(2, 10, 5)), pn(3, 10, 5)).list()},
		{"a pane of width 0", rw(pn(1, 10, 5), pn(2, 0, 5)).list()},
		{"a pane of height 0", cl(pn(1, 10, 0), pn(2, 10, 5)).list()},
		{"a pane of width -1", rw(pn(1, 10, 5), pn(2, -1, 5), pn(3, 10, 5)).list()},
		{"a row of height 0", rw(pn(1, 10, 0), pn(2, 10, 0)).list()},
		{"a row's first child one to the right", change(two, 1, func(c *api.Cell) { c.X++; c.W-- })},
		{"a child without a border ahead", change(two, 2, func(c *api.Cell) { c.X--; c.W++ })},
		{"a child with a border of two", change(two, 2, func(c *api.Cell) { c.X++; c.W-- })},
		{"a middle child out of place", change(three, 2, func(c *api.Cell) { c.X++ })},
		{"a row's last child too wide", change(two, 2, func(c *api.Cell) { c.W++ })},
		{"a row's last child too narrow", change(two, 2, func(c *api.Cell) { c.W-- })},
		{"a row's child one down", change(two, 2, func(c *api.Cell) { c.Y++ })},
		{"a row's child too high", change(two, 2, func(c *api.Cell) { c.H++ })},
		{"a row's first child too low", change(two, 1, func(c *api.Cell) { c.H-- })},
		{"a column's first child one down", change(col, 1, func(c *api.Cell) { c.Y++; c.H-- })},
		{"a column's child without a border ahead", change(col, 2, func(c *api.Cell) { c.Y--; c.H++ })},
		{"a column's last child too high", change(col, 2, func(c *api.Cell) { c.H++ })},
		{"a column's child one to the right", change(col, 2, func(c *api.Cell) { c.X++ })},
		{"a column's child too narrow", change(col, 1, func(c *api.Cell) { c.W-- })},
		{"sides whose sum wraps round", wrapping()},
		{"a pane 0", change(one, 0, func(c *api.Cell) { c.Pane = 0 })},
		{"a pane -1", change(one, 0, func(c *api.Cell) { c.Pane = -1 })},
		{"a pane above MaxNumber", change(one, 0, func(c *api.Cell) { c.Pane = api.MaxNumber + 1 })},
		{"two panes of one id", change(two, 2, func(c *api.Cell) { c.Pane = 1 })},
		{"two panes of one id, far apart", change(deep(), 11, func(c *api.Cell) { c.Pane = 1 })},
		{"a row with a pane's id", change(two, 0, func(c *api.Cell) { c.Pane = 7 })},
		{"a column with a pane's id", change(nested, 2, func(c *api.Cell) { c.Pane = -1 })},
		{"too many panes", tooMany.list()},
		{"far too many panes", tooManyCells.list()},
		{"a list that ends too early", deep().list()[:11]},
		{"a list that begins too late", deep().list()[1:]},
	}
}

func shifted(n node, x, y int) []api.Cell {
	l := n.list()
	for i := range l {
		l[i].X += x
		l[i].Y += y
	}
	return l
}

// wrapping is right in numbers of 64 bits: its three widths and two borders add up to 10.
func wrapping() []api.Cell {
	at := func(x, w, id int) api.Cell {
		return api.Cell{Depth: 1, Kind: api.CellPane, X: x, W: w, H: 5, Pane: id}
	}
	return []api.Cell{{Kind: api.CellRow, W: 10, H: 5}, at(0, math.MaxInt, 1), at(math.MinInt, math.MaxInt, 2), at(0, 10, 3)}
}

func TestP41CheckOfLayouts(t *testing.T) {
	for _, n := range goodTrees() {
		if e := Check(n.list()); e != api.OK {
			t.Errorf("error %d for%s", e, show(n.list()))
		}
	}
}

func TestP41CheckOfListsThatAreNone(t *testing.T) {
	for _, bad := range noLayouts() {
		if e := Check(bad.l); e != api.ErrLayout {
			t.Errorf("%s: error %d for%s", bad.what, e, show(bad.l))
		}
		if modelCheck(bad.l) {
			t.Errorf("the model takes %s for a layout", bad.what)
		}
	}
}

// Every field of every cell of a layout is set to each of these numbers: Check must say what the points say.
func TestP41CheckOfLayoutsWithOneFieldChanged(t *testing.T) {
	fields := func(c *api.Cell) []*int {
		return []*int{&c.Depth, &c.Kind, &c.X, &c.Y, &c.W, &c.H, &c.Pane}
	}
	numbers := []int{math.MinInt, -1000, -2, -1, 0, 1, 2, 3, 4, 5, 9, 10, 20, 999, 1000, 1001, api.MaxNumber, api.MaxNumber + 1, math.MaxInt}
	for _, n := range goodTrees() {
		l := n.list()
		for i := range l {
			kept := l[i]
			for f := range fields(&l[i]) {
				for _, to := range numbers {
					*fields(&l[i])[f] = to
					if got, want := Check(l) == api.OK, modelCheck(l); got != want {
						t.Errorf("%v for%s", got, show(l))
					}
					l[i] = kept
				}
			}
		}
	}
}

// A cell is taken out, told twice, or changes places with the next one.
func TestP41CheckOfLayoutsWithCellsMoved(t *testing.T) {
	for _, n := range goodTrees() {
		l := n.list()
		for i := range l {
			tries := [][]api.Cell{slices.Delete(slices.Clone(l), i, i+1), slices.Insert(slices.Clone(l), i, l[i]), l[:i], l[i:]}
			if i > 0 {
				turned := slices.Clone(l)
				turned[i-1], turned[i] = turned[i], turned[i-1]
				tries = append(tries, turned)
			}
			for _, try := range tries {
				if got, want := Check(try) == api.OK, modelCheck(try); got != want {
					t.Errorf("%v for%s", got, show(try))
				}
			}
		}
	}
}

func TestP42New(t *testing.T) {
	for _, c := range []struct {
		w, h, pane int
		e          api.Errno
	}{
		{80, 24, 1, api.OK}, {1, 1, 1, api.OK}, {api.MaxSide, 1, 2, api.OK}, {1, api.MaxSide, 3, api.OK},
		{api.MaxSide, api.MaxSide, api.MaxNumber, api.OK},
		{0, 24, 1, api.ErrSide}, {80, 0, 1, api.ErrSide}, {-1, 24, 1, api.ErrSide}, {80, -1, 1, api.ErrSide},
		{api.MaxSide + 1, 24, 1, api.ErrSide}, {80, api.MaxSide + 1, 1, api.ErrSide},
		{math.MinInt, 24, 1, api.ErrSide}, {80, math.MaxInt, 1, api.ErrSide},
		{80, 24, 0, api.ErrPaneId}, {80, 24, -1, api.ErrPaneId}, {80, 24, api.MaxNumber + 1, api.ErrPaneId}, {80, 24, math.MinInt, api.ErrPaneId},
		{0, 24, 0, api.ErrSide}, {80, api.MaxSide + 1, api.MaxNumber + 1, api.ErrSide},
	} {
		l, e := New(c.w, c.h, c.pane)
		if c.e != api.OK {
			wantError(t, "New", l, e, c.e)
			continue
		}
		wantTree(t, "New", l, e, pn(c.pane, c.w, c.h))
	}
}
