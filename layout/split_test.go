package layout

import (
	"math"
	"slices"
	"testing"

	"mullion/api"
)

const (
	row = api.CellRow
	col = api.CellCol
)

func TestP45Split(t *testing.T) {
	one := pn(1, 80, 24)
	two := rw(pn(1, 40, 24), pn(2, 39, 24))
	three := rw(pn(1, 40, 24), cl(pn(2, 39, 18), pn(3, 39, 5)))
	for _, c := range []struct {
		what             string
		n                node
		pane, kind, size int
		before           bool
		want             node
	}{
		{"the only pane, in a row", one, 1, row, 0, false, rw(pn(1, 40, 24), pn(9, 39, 24))},
		{"the only pane, in a row, before", one, 1, row, 0, true, rw(pn(9, 39, 24), pn(1, 40, 24))},
		{"the only pane, in a column", one, 1, col, 0, false, cl(pn(1, 80, 12), pn(9, 80, 11))},
		{"the only pane, in a column, before", one, 1, col, 0, true, cl(pn(9, 80, 11), pn(1, 80, 12))},
		{"an even share of an odd extent", pn(1, 81, 25), 1, row, 0, false, rw(pn(1, 40, 25), pn(9, 40, 25))},
		{"an odd extent, in a column", pn(1, 81, 25), 1, col, -1, false, cl(pn(1, 81, 12), pn(9, 81, 12))},
		{"a size below 0", one, 1, row, math.MinInt, false, rw(pn(1, 40, 24), pn(9, 39, 24))},
		{"size 1", one, 1, row, 1, false, rw(pn(1, 78, 24), pn(9, 1, 24))},
		{"size 5, before", one, 1, col, 5, true, cl(pn(9, 80, 5), pn(1, 80, 18))},
		{"the greatest size", one, 1, row, 78, false, rw(pn(1, 1, 24), pn(9, 78, 24))},
		{"a size one too great", one, 1, row, 79, false, rw(pn(1, 1, 24), pn(9, 78, 24))},
		{"a size far too great", one, 1, col, math.MaxInt, true, cl(pn(9, 80, 22), pn(1, 80, 1))},
		{"the least extent", pn(1, 3, 1), 1, row, 0, false, rw(pn(1, 1, 1), pn(9, 1, 1))},
		{"the least extent, and a size", pn(1, 3, 1), 1, row, 2, true, rw(pn(9, 1, 1), pn(1, 1, 1))},
		{"the greatest window", pn(1, 1000, 1000), 1, row, 0, false, rw(pn(1, 500, 1000), pn(9, 499, 1000))},
		{"the first child of its kind", two, 1, row, 9, false, rw(pn(1, 30, 24), pn(9, 9, 24), pn(2, 39, 24))},
		{"the first child of its kind, before", two, 1, row, 9, true, rw(pn(9, 9, 24), pn(1, 30, 24), pn(2, 39, 24))},
		{"the last child of its kind", two, 2, row, 9, false, rw(pn(1, 40, 24), pn(2, 29, 24), pn(9, 9, 24))},
		{"the last child of its kind, before", two, 2, row, 9, true, rw(pn(1, 40, 24), pn(9, 9, 24), pn(2, 29, 24))},
		{"the first child of another kind", two, 1, col, 5, false, rw(cl(pn(1, 40, 18), pn(9, 40, 5)), pn(2, 39, 24))},
		{"the last child of another kind, before", two, 2, col, 5, true, rw(pn(1, 40, 24), cl(pn(9, 39, 5), pn(2, 39, 18)))},
		{"deep inside, of its kind", three, 3, col, 1, false, rw(pn(1, 40, 24), cl(pn(2, 39, 18), pn(3, 39, 3), pn(9, 39, 1)))},
		{"deep inside, of its kind, before, too great", three, 3, col, 9, true, rw(pn(1, 40, 24), cl(pn(2, 39, 18), pn(9, 39, 3), pn(3, 39, 1)))},
		{"deep inside, of another kind", three, 2, row, 0, false, rw(pn(1, 40, 24), cl(rw(pn(2, 19, 18), pn(9, 19, 18)), pn(3, 39, 5)))},
	} {
		l, e := Split(c.n.list(), c.pane, c.kind, c.size, c.before, 9)
		wantTree(t, c.what, l, e, c.want)
	}
}

func TestP45SplitGivesPlaces(t *testing.T) {
	l, e := Split(rw(pn(1, 40, 24), pn(2, 39, 24)).list(), 1, col, 5, false, 3)
	want := []api.Cell{
		{Depth: 0, Kind: row, W: 80, H: 24}, {Depth: 1, Kind: col, W: 40, H: 24},
		{Depth: 2, Kind: api.CellPane, W: 40, H: 18, Pane: 1}, {Depth: 2, Kind: api.CellPane, Y: 19, W: 40, H: 5, Pane: 3},
		{Depth: 1, Kind: api.CellPane, X: 41, W: 39, H: 24, Pane: 2},
	}
	if e != api.OK || !slices.Equal(l, want) {
		t.Errorf("error %d, list%s", e, show(l))
	}
}

// In each of these, every error behind the one that is wanted applies too, as far as that can be.
func TestP45SplitErrors(t *testing.T) {
	full := manyPanes(api.MaxPanes)
	wide := full
	wide.kids = slices.Clone(full.kids)
	wide.kids[0].w = 3
	wide = rw(wide.kids...)
	small := rw(pn(1, 2, 2), pn(2, 2, 2))
	for _, c := range []struct {
		what           string
		n              node
		pane, kind, id int
		want           api.Errno
	}{
		{"a kind that is none, and all else", full, 99, api.CellPane, 1, api.ErrArg},
		{"kind 0", small, 1, 0, 9, api.ErrArg}, {"kind 4", small, 1, 4, 9, api.ErrArg}, {"kind -1", small, 1, -1, 9, api.ErrArg},
		{"no such pane, and all else", full, 99, row, 1, api.ErrNoPane},
		{"pane 0", small, 0, row, 9, api.ErrNoPane},
		{"id 0, and all else", full, 1, row, 0, api.ErrPaneId}, {"id -1", small, 1, row, -1, api.ErrPaneId},
		{"an id above MaxNumber", full, 1, row, api.MaxNumber + 1, api.ErrPaneId},
		{"the pane's own id", small, 1, row, 1, api.ErrPaneId}, {"another pane's id", full, 1, row, 32, api.ErrPaneId},
		{"too many panes, and too small", full, 1, row, 99, api.ErrManyPanes},
		{"too many panes", wide, 1, row, 99, api.ErrManyPanes},
		{"too narrow", small, 1, row, 9, api.ErrSmall}, {"too low", small, 2, col, 9, api.ErrSmall},
		{"one place", pn(1, 1, 1), 1, row, 2, api.ErrSmall},
	} {
		for _, size := range []int{-1, 0, 1, 2, math.MaxInt} {
			l, e := Split(c.n.list(), c.pane, c.kind, size, size == 0, c.id)
			wantError(t, c.what, l, e, c.want)
		}
	}
	for _, bad := range noLayouts() {
		l, e := Split(bad.l, 99, 0, 0, false, 0)
		wantError(t, bad.what, l, e, api.ErrLayout)
	}
	l, e := Split(pn(1, 3, 3).list(), 1, row, 0, false, api.MaxNumber)
	wantTree(t, "the greatest id", l, e, rw(pn(1, 1, 3), pn(api.MaxNumber, 1, 3)))
	one := manyPanes(api.MaxPanes - 1)
	one.kids[0].w = 3
	if l, e := Split(rw(one.kids...).list(), 1, row, 0, false, 99); e != api.OK || len(Panes(l)) != api.MaxPanes {
		t.Errorf("the last pane that may be: error %d, list%s", e, show(l))
	}
}

func TestP46Full(t *testing.T) {
	two := rw(pn(1, 40, 24), cl(pn(2, 39, 18), pn(3, 39, 5)))
	for _, c := range []struct {
		what       string
		n          node
		kind, size int
		before     bool
		want       node
	}{
		{"beside one pane", pn(1, 80, 24), row, 0, false, rw(pn(1, 40, 24), pn(9, 39, 24))},
		{"beside one pane, before", pn(1, 80, 24), col, 0, true, cl(pn(9, 80, 11), pn(1, 80, 12))},
		{"beside one pane, a size", pn(1, 80, 24), col, 3, false, cl(pn(1, 80, 20), pn(9, 80, 3))},
		{"beside one pane, too great", pn(1, 80, 24), row, 79, false, rw(pn(1, 1, 24), pn(9, 78, 24))},
		{"a root of that kind", two, row, 9, false, rw(pn(1, 35, 24), cl(pn(2, 34, 18), pn(3, 34, 5)), pn(9, 9, 24))},
		{"a root of that kind, before", two, row, 10, true, rw(pn(9, 10, 24), pn(1, 34, 24), cl(pn(2, 34, 18), pn(3, 34, 5)))},
		{"a root of that kind, half", two, row, -5, false, rw(pn(1, 20, 24), cl(pn(2, 19, 18), pn(3, 19, 5)), pn(9, 39, 24))},
		{"a root of that kind, as great as can be", two, row, 76, true, rw(pn(9, 76, 24), pn(1, 1, 24), cl(pn(2, 1, 18), pn(3, 1, 5)))},
		{"a root of that kind, too great", two, row, math.MaxInt, false, rw(pn(1, 1, 24), cl(pn(2, 1, 18), pn(3, 1, 5)), pn(9, 76, 24))},
		{"a root of another kind", two, col, 3, false, cl(rw(pn(1, 40, 20), cl(pn(2, 39, 16), pn(3, 39, 3))), pn(9, 80, 3))},
		{"a root of another kind, before", two, col, 3, true, cl(pn(9, 80, 3), rw(pn(1, 40, 20), cl(pn(2, 39, 16), pn(3, 39, 3))))},
		{"a root of another kind, half", two, col, math.MinInt, false, cl(rw(pn(1, 40, 12), cl(pn(2, 39, 10), pn(3, 39, 1))), pn(9, 80, 11))},
		{"a root of another kind, too great", two, col, 23, false, cl(rw(pn(1, 40, 3), cl(pn(2, 39, 1), pn(3, 39, 1))), pn(9, 80, 20))},
		{"half is more than there is room", rw(pn(1, 1, 3), pn(2, 1, 3), pn(3, 3, 3)), row, 0, false, rw(pn(1, 1, 3), pn(2, 1, 3), pn(3, 1, 3), pn(9, 1, 3))},
		{"the least room", pn(1, 3, 1), row, 0, false, rw(pn(1, 1, 1), pn(9, 1, 1))},
		{"a column as root", cl(pn(1, 9, 4), pn(2, 9, 4)), col, 2, false, cl(pn(1, 9, 2), pn(2, 9, 3), pn(9, 9, 2))},
	} {
		l, e := Full(c.n.list(), c.kind, c.size, c.before, 9)
		wantTree(t, c.what, l, e, c.want)
	}
}

func TestP46FullErrors(t *testing.T) {
	full := manyPanes(api.MaxPanes)
	small := rw(pn(1, 2, 2), pn(2, 1, 2))
	for _, c := range []struct {
		what     string
		n        node
		kind, id int
		want     api.Errno
	}{
		{"a kind that is none, and all else", full, api.CellPane, 1, api.ErrArg}, {"kind 0", small, 0, 9, api.ErrArg}, {"kind 4", small, 4, 9, api.ErrArg},
		{"id 0, and all else", full, row, 0, api.ErrPaneId}, {"id -1", small, row, -1, api.ErrPaneId},
		{"an id above MaxNumber", full, row, api.MaxNumber + 1, api.ErrPaneId}, {"an id that is there", full, row, 7, api.ErrPaneId},
		{"too many panes, and too small", full, row, 99, api.ErrManyPanes}, {"too many panes", full, col, 99, api.ErrManyPanes},
		{"room of 1, in a row", small, row, 9, api.ErrSmall}, {"room of 1, in a column", small, col, 9, api.ErrSmall},
		{"room of 0", pn(1, 1, 1), row, 9, api.ErrSmall},
		{"one child without room across", rw(pn(1, 5, 3), cl(pn(2, 5, 1), pn(3, 5, 1))), col, 9, api.ErrSmall},
	} {
		for _, size := range []int{-1, 0, 1, math.MaxInt} {
			l, e := Full(c.n.list(), c.kind, size, size == 0, c.id)
			wantError(t, c.what, l, e, c.want)
		}
	}
	for _, bad := range noLayouts() {
		l, e := Full(bad.l, 0, 0, false, 0)
		wantError(t, bad.what, l, e, api.ErrLayout)
	}
}

func TestP47Close(t *testing.T) {
	three := rw(pn(1, 10, 9), pn(2, 12, 9), pn(3, 14, 9))
	two := rw(pn(1, 40, 24), cl(pn(2, 39, 18), pn(3, 39, 5)))
	// The child that is stretched is a cut: the lines are dealt out in it.
	cuts := cl(rw(pn(1, 5, 3), pn(2, 6, 3)), pn(3, 12, 4), rw(pn(4, 7, 5), cl(pn(5, 4, 2), pn(6, 4, 2))))
	for _, c := range []struct {
		what string
		n    node
		pane int
		want node
	}{
		{"a first child", three, 1, rw(pn(2, 23, 9), pn(3, 14, 9))},
		{"a middle child", three, 2, rw(pn(1, 23, 9), pn(3, 14, 9))},
		{"a last child", three, 3, rw(pn(1, 10, 9), pn(2, 27, 9))},
		{"the first of two", rw(pn(1, 40, 24), pn(2, 39, 24)), 1, pn(2, 80, 24)},
		{"the last of two", cl(pn(1, 40, 24), pn(2, 40, 3)), 2, pn(1, 40, 28)},
		{"the first of two, inside", two, 2, rw(pn(1, 40, 24), pn(3, 39, 24))},
		{"the last of two, inside", two, 3, rw(pn(1, 40, 24), pn(2, 39, 24))},
		{"a cut comes up to be the root", two, 1, cl(pn(2, 80, 18), pn(3, 80, 5))},
		{"the cut ahead is stretched, all of it", cuts, 3, cl(rw(pn(1, 5, 8), pn(2, 6, 8)), rw(pn(4, 7, 5), cl(pn(5, 4, 2), pn(6, 4, 2))))},
		{
			"a column comes up into a column", cuts, 4,
			cl(rw(pn(1, 5, 3), pn(2, 6, 3)), pn(3, 12, 4), pn(5, 12, 2), pn(6, 12, 2)),
		},
		{
			"a row comes up into a row, in the middle",
			rw(pn(1, 3, 9), cl(rw(pn(2, 4, 4), pn(3, 5, 4)), pn(4, 10, 4)), pn(5, 2, 9)), 4,
			rw(pn(1, 3, 9), pn(2, 4, 9), pn(3, 5, 9), pn(5, 2, 9)),
		},
		{
			"a row that comes up was stretched as a cell",
			cl(pn(1, 11, 2), rw(pn(2, 5, 8), cl(pn(3, 5, 3), rw(pn(4, 2, 4), pn(5, 2, 4))))), 3,
			cl(pn(1, 11, 2), rw(pn(2, 5, 8), pn(4, 2, 8), pn(5, 2, 8))),
		},
		{
			"the lines are dealt out in turn",
			rw(pn(1, 4, 9), cl(rw(pn(2, 1, 4), pn(3, 1, 4), pn(4, 1, 4)), pn(5, 5, 4)), pn(6, 2, 9)), 1,
			rw(cl(rw(pn(2, 3, 4), pn(3, 3, 4), pn(4, 2, 4)), pn(5, 10, 4)), pn(6, 2, 9)),
		},
	} {
		l, e := Close(c.n.list(), c.pane)
		wantTree(t, c.what, l, e, c.want)
	}
}

func TestP47CloseErrors(t *testing.T) {
	for _, pane := range []int{0, -1, 3, math.MaxInt, math.MinInt} {
		l, e := Close(rw(pn(1, 4, 4), pn(2, 4, 4)).list(), pane)
		wantError(t, "no such pane", l, e, api.ErrNoPane)
		l, e = Close(pn(1, 4, 4).list(), pane)
		wantError(t, "no such pane, and one alone", l, e, api.ErrNoPane)
	}
	l, e := Close(pn(1, 4, 4).list(), 1)
	wantError(t, "the last pane", l, e, api.ErrLastPane)
	for _, bad := range noLayouts() {
		for pane := range 3 {
			l, e := Close(bad.l, pane)
			wantError(t, bad.what, l, e, api.ErrLayout)
		}
	}
}

func TestP417SplitAndClose(t *testing.T) {
	for _, n := range append(goodTrees(), rw(pn(1, 40, 24), cl(pn(2, 39, 18), pn(3, 39, 5)))) {
		for _, pane := range n.ids() {
			for _, kind := range []int{row, col} {
				for _, size := range []int{-1, 0, 1, 2, 5, 400, math.MaxInt} {
					l, e := Split(n.list(), pane, kind, size, false, 99)
					if e != api.OK {
						continue
					}
					back, e := Close(l, 99)
					wantTree(t, "Split and Close", back, e, n)
				}
			}
		}
	}
}
