package layout

import (
	"math"
	"testing"

	"mullion/api"
)

func TestP48Resize(t *testing.T) {
	two := rw(pn(1, 40, 24), pn(2, 39, 24))
	three := rw(pn(1, 2, 5), pn(2, 1, 5), pn(3, 9, 5))
	mixed := rw(pn(1, 40, 24), cl(pn(2, 39, 18), pn(3, 39, 5)))
	for _, c := range []struct {
		what string
		n    node
		w, h int
		want node
	}{
		{"one pane", pn(1, 80, 24), 7, 900, pn(1, 7, 900)},
		{"as it was", deep(), deep().w, deep().h, deep()},
		{"three lines more", two, 83, 24, rw(pn(1, 42, 24), pn(2, 40, 24))},
		{"one line more", two, 81, 24, rw(pn(1, 41, 24), pn(2, 39, 24))},
		{"three lines less", two, 77, 24, rw(pn(1, 38, 24), pn(2, 38, 24))},
		{"the least", two, 3, 1, rw(pn(1, 1, 1), pn(2, 1, 1))},
		{"the greatest", two, api.MaxSide, api.MaxSide, rw(pn(1, 500, 1000), pn(2, 499, 1000))},
		{"a child without room is passed over", three, 9, 5, rw(pn(1, 1, 5), pn(2, 1, 5), pn(3, 5, 5))},
		{"the turn goes on behind the last child", three, 18, 5, rw(pn(1, 4, 5), pn(2, 2, 5), pn(3, 10, 5))},
		{"higher", mixed, 80, 27, rw(pn(1, 40, 27), cl(pn(2, 39, 20), pn(3, 39, 6)))},
		{"lower", mixed, 80, 17, rw(pn(1, 40, 17), cl(pn(2, 39, 14), pn(3, 39, 2)))},
		{"lower, where the second has no more", mixed, 80, 11, rw(pn(1, 40, 11), cl(pn(2, 39, 9), pn(3, 39, 1)))},
		{"both ways at once", mixed, 81, 23, rw(pn(1, 41, 23), cl(pn(2, 39, 17), pn(3, 39, 5)))},
		{"down to the least", mixed, 3, 3, rw(pn(1, 1, 3), cl(pn(2, 1, 1), pn(3, 1, 1)))},
		{
			// The row inside is stretched by 1 three times over: each time the turn begins with its first child.
			"single lines inside begin with the first child",
			rw(cl(rw(pn(1, 3, 2), pn(2, 3, 2)), pn(3, 7, 2)), pn(4, 3, 5)), 17, 5,
			rw(cl(rw(pn(1, 6, 2), pn(2, 3, 2)), pn(3, 10, 2)), pn(4, 6, 5)),
		},
		{
			"single lines less inside begin with the first child",
			rw(cl(rw(pn(1, 3, 2), pn(2, 3, 2)), pn(3, 7, 2)), pn(4, 4, 5)), 6, 5,
			rw(cl(rw(pn(1, 1, 2), pn(2, 2, 2)), pn(3, 4, 2)), pn(4, 1, 5)),
		},
		{
			// The root deals nothing: all six lines come to the row at once, and are dealt out there.
			"many lines at once across",
			cl(rw(pn(1, 3, 2), pn(2, 3, 2)), pn(3, 7, 2)), 13, 5,
			cl(rw(pn(1, 6, 2), pn(2, 6, 2)), pn(3, 13, 2)),
		},
	} {
		l, e := Resize(c.n.list(), c.w, c.h)
		wantTree(t, c.what, l, e, c.want)
	}
}

func TestP48ResizeToTheLeastAndBelow(t *testing.T) {
	for _, n := range goodTrees() {
		w, h, e := modelLeast(n.list())
		if e != api.OK {
			t.Fatal(e)
		}
		for _, c := range [][3]int{{w, h, 0}, {w, n.h, 0}, {n.w, h, 0}, {w - 1, n.h, 1}, {n.w, h - 1, 1}, {w - 1, h - 1, 1}} {
			want, wantE := modelResize(n.list(), c[0], c[1])
			l, e := Resize(n.list(), c[0], c[1])
			if wantE != e || e == api.OK != (c[2] == 0) {
				t.Errorf("Resize to %d x %d: error %d", c[0], c[1], e)
			}
			if e == api.OK {
				wantTree(t, "the least", l, e, treeOf(want))
			} else {
				wantError(t, "below the least", l, e, wantE)
			}
		}
	}
}

func TestP48ResizeErrors(t *testing.T) {
	two := rw(pn(1, 40, 24), pn(2, 39, 24))
	for _, c := range []struct {
		w, h int
		want api.Errno
	}{
		{0, 24, api.ErrSide}, {80, 0, api.ErrSide}, {-1, -1, api.ErrSide}, {api.MaxSide + 1, 24, api.ErrSide}, {80, api.MaxSide + 1, api.ErrSide},
		{math.MinInt, 24, api.ErrSide}, {80, math.MaxInt, api.ErrSide}, {2, 0, api.ErrSide}, {2, 1001, api.ErrSide},
		{2, 24, api.ErrSmall}, {1, 1, api.ErrSmall},
	} {
		l, e := Resize(two.list(), c.w, c.h)
		wantError(t, "Resize", l, e, c.want)
	}
	for _, bad := range noLayouts() {
		l, e := Resize(bad.l, 0, 0)
		wantError(t, bad.what, l, e, api.ErrLayout)
	}
}

type push struct {
	what           string
	n              node
	pane, kind, by int
	moved          int
	want           node
}

func TestP49Push(t *testing.T) {
	two := rw(pn(1, 40, 24), pn(2, 39, 24))
	four := rw(pn(1, 4, 5), pn(2, 3, 5), pn(3, 1, 5), pn(4, 6, 5))
	inner := cl(pn(1, 20, 4), rw(pn(2, 6, 8), cl(pn(3, 13, 3), pn(4, 13, 4))), pn(5, 20, 2))
	for _, c := range []push{
		{"to the right", two, 1, row, 5, 5, rw(pn(1, 45, 24), pn(2, 34, 24))},
		{"to the left", two, 1, row, -5, -5, rw(pn(1, 35, 24), pn(2, 44, 24))},
		{"by 0", two, 1, row, 0, 0, two},
		{"as far as it goes", two, 1, row, 38, 38, rw(pn(1, 78, 24), pn(2, 1, 24))},
		{"further than it goes", two, 1, row, math.MaxInt, 38, rw(pn(1, 78, 24), pn(2, 1, 24))},
		{"further than it goes, to the left", two, 1, row, math.MinInt, -39, rw(pn(1, 1, 24), pn(2, 78, 24))},
		{"from the last child", two, 2, row, 5, 5, rw(pn(1, 45, 24), pn(2, 34, 24))},
		{"from the last child, to the left", two, 2, row, -100, -39, rw(pn(1, 1, 24), pn(2, 78, 24))},
		{"down", cl(pn(1, 9, 5), pn(2, 9, 5)), 1, col, 2, 2, cl(pn(1, 9, 7), pn(2, 9, 3))},
		{"up", cl(pn(1, 9, 5), pn(2, 9, 5)), 2, col, -9, -4, cl(pn(1, 9, 1), pn(2, 9, 9))},
		{"the nearest gives first", four, 1, row, 2, 2, rw(pn(1, 6, 5), pn(2, 1, 5), pn(3, 1, 5), pn(4, 6, 5))},
		{"one without room is passed over", four, 1, row, 4, 4, rw(pn(1, 8, 5), pn(2, 1, 5), pn(3, 1, 5), pn(4, 4, 5))},
		{"all behind give", four, 1, row, 99, 7, rw(pn(1, 11, 5), pn(2, 1, 5), pn(3, 1, 5), pn(4, 1, 5))},
		{"a middle child", four, 2, row, 3, 3, rw(pn(1, 4, 5), pn(2, 6, 5), pn(3, 1, 5), pn(4, 3, 5))},
		{"a middle child gives", four, 2, row, -1, -1, rw(pn(1, 4, 5), pn(2, 2, 5), pn(3, 2, 5), pn(4, 6, 5))},
		{"those ahead give too", four, 2, row, -4, -4, rw(pn(1, 2, 5), pn(2, 1, 5), pn(3, 5, 5), pn(4, 6, 5))},
		{"c has no room, the nearest ahead gives", four, 3, row, -3, -3, rw(pn(1, 3, 5), pn(2, 1, 5), pn(3, 1, 5), pn(4, 9, 5))},
		{"the last of four: c is the third", four, 4, row, -99, -5, rw(pn(1, 1, 5), pn(2, 1, 5), pn(3, 1, 5), pn(4, 11, 5))},
		{"the last of four, to the right", four, 4, row, 2, 2, rw(pn(1, 4, 5), pn(2, 3, 5), pn(3, 3, 5), pn(4, 4, 5))},
		{"nobody has room behind", rw(pn(1, 4, 5), pn(2, 1, 5)), 1, row, 3, 0, rw(pn(1, 4, 5), pn(2, 1, 5))},
		{"nobody has room ahead", rw(pn(1, 1, 5), pn(2, 4, 5)), 1, row, -3, 0, rw(pn(1, 1, 5), pn(2, 4, 5))},
		{"the nearest cell of that kind", inner, 3, col, 1, 1, cl(pn(1, 20, 4), rw(pn(2, 6, 8), cl(pn(3, 13, 4), pn(4, 13, 3))), pn(5, 20, 2))},
		{"from deep inside", inner, 2, col, 1, 1, cl(pn(1, 20, 4), rw(pn(2, 6, 9), cl(pn(3, 13, 4), pn(4, 13, 4))), pn(5, 20, 1))},
		{"from deep inside, to the least", inner, 2, col, -99, -8, cl(pn(1, 20, 1), rw(pn(2, 6, 3), cl(pn(3, 13, 1), pn(4, 13, 1))), pn(5, 20, 10))},
		{"from deep inside, across", inner, 4, row, 3, 3, cl(pn(1, 20, 4), rw(pn(2, 9, 8), cl(pn(3, 10, 3), pn(4, 10, 4))), pn(5, 20, 2))},
		{"from deep inside, the other way", inner, 3, row, -99, -5, cl(pn(1, 20, 4), rw(pn(2, 1, 8), cl(pn(3, 18, 3), pn(4, 18, 4))), pn(5, 20, 2))},
		{
			// Two gifts come to the row one after the other, 3 lines and then 1, each dealt out in its column from the first child on.
			"each gift begins the turn anew",
			cl(rw(pn(1, 9, 5), cl(pn(2, 9, 2), pn(3, 9, 2))), pn(4, 19, 4), pn(5, 19, 3)), 1, col, 4, 4,
			cl(rw(pn(1, 9, 9), cl(pn(2, 9, 5), pn(3, 9, 3))), pn(4, 19, 1), pn(5, 19, 2)),
		},
	} {
		l, moved, e := Push(c.n.list(), c.pane, c.kind, c.by)
		wantTree(t, c.what, l, e, c.want)
		if moved != c.moved {
			t.Errorf("%s: moved by %d, not %d", c.what, moved, c.moved)
		}
	}
}

func TestP49PushErrors(t *testing.T) {
	two := rw(pn(1, 40, 24), cl(pn(2, 39, 18), pn(3, 39, 5)))
	check := func(what string, l []api.Cell, pane, kind int, want api.Errno) {
		t.Helper()
		for _, by := range far {
			got, moved, e := Push(l, pane, kind, by)
			wantError(t, what, got, e, want)
			if moved != 0 {
				t.Errorf("%s: moved by %d", what, moved)
			}
		}
	}
	check("a kind that is none, and no such pane", two.list(), 9, api.CellPane, api.ErrArg)
	check("kind 0", two.list(), 1, 0, api.ErrArg)
	check("kind 4", two.list(), 1, 4, api.ErrArg)
	check("no such pane", two.list(), 9, row, api.ErrNoPane)
	check("pane 0", two.list(), 0, row, api.ErrNoPane)
	check("no column", two.list(), 1, col, api.ErrAlone)
	check("no row", cl(pn(1, 5, 5), pn(2, 5, 5)).list(), 2, row, api.ErrAlone)
	check("one pane", pn(1, 5, 5).list(), 1, row, api.ErrAlone)
	check("one pane", pn(1, 5, 5).list(), 1, col, api.ErrAlone)
	for _, bad := range noLayouts() {
		check(bad.what, bad.l, 9, 0, api.ErrLayout)
	}
}

func TestP410Set(t *testing.T) {
	four := rw(pn(1, 4, 5), pn(2, 3, 5), pn(3, 1, 5), pn(4, 6, 5))
	two := rw(pn(1, 40, 24), pn(2, 39, 24))
	inner := cl(pn(1, 20, 4), rw(pn(2, 6, 8), cl(pn(3, 13, 3), pn(4, 13, 4))), pn(5, 20, 2))
	for _, c := range []struct {
		what             string
		n                node
		pane, kind, size int
		want             node
	}{
		{"the first, greater", two, 1, row, 50, rw(pn(1, 50, 24), pn(2, 29, 24))},
		{"the first, smaller", two, 1, row, 7, rw(pn(1, 7, 24), pn(2, 72, 24))},
		{"as it is", two, 1, row, 40, two},
		{"the last, greater", two, 2, row, 50, rw(pn(1, 29, 24), pn(2, 50, 24))},
		{"the last, smaller", two, 2, row, 30, rw(pn(1, 49, 24), pn(2, 30, 24))},
		{"the last, as it is", two, 2, row, 39, two},
		{"size 1", two, 1, row, 1, rw(pn(1, 1, 24), pn(2, 78, 24))},
		{"size 1 of the last", two, 2, row, 1, rw(pn(1, 78, 24), pn(2, 1, 24))},
		{"MaxSide", two, 1, row, api.MaxSide, rw(pn(1, 78, 24), pn(2, 1, 24))},
		{"MaxSide of the last", two, 2, row, api.MaxSide, rw(pn(1, 1, 24), pn(2, 78, 24))},
		{"a middle child, greater", four, 2, row, 6, rw(pn(1, 4, 5), pn(2, 6, 5), pn(3, 1, 5), pn(4, 3, 5))},
		{"a middle child, smaller", four, 2, row, 1, rw(pn(1, 4, 5), pn(2, 1, 5), pn(3, 3, 5), pn(4, 6, 5))},
		{"the last of four", four, 4, row, 8, rw(pn(1, 4, 5), pn(2, 1, 5), pn(3, 1, 5), pn(4, 8, 5))},
		{"the last of four, smaller", four, 4, row, 2, rw(pn(1, 4, 5), pn(2, 3, 5), pn(3, 5, 5), pn(4, 2, 5))},
		{"a pane in the child that is measured", inner, 3, row, 10, cl(pn(1, 20, 4), rw(pn(2, 9, 8), cl(pn(3, 10, 3), pn(4, 10, 4))), pn(5, 20, 2))},
		{"the row's height, not the pane's row alone", inner, 2, col, 9, cl(pn(1, 20, 4), rw(pn(2, 6, 9), cl(pn(3, 13, 4), pn(4, 13, 4))), pn(5, 20, 1))},
		{"the nearest column", inner, 4, col, 6, cl(pn(1, 20, 4), rw(pn(2, 6, 8), cl(pn(3, 13, 1), pn(4, 13, 6))), pn(5, 20, 2))},
	} {
		l, e := Set(c.n.list(), c.pane, c.kind, c.size)
		wantTree(t, c.what, l, e, c.want)
	}
}

func TestP410SetErrors(t *testing.T) {
	two := rw(pn(1, 40, 24), cl(pn(2, 39, 18), pn(3, 39, 5)))
	for _, size := range []int{0, -1, api.MaxSide + 1, math.MinInt, math.MaxInt} {
		for _, c := range []struct {
			pane, kind int
			want       api.Errno
		}{
			{9, 1, api.ErrArg}, {9, 0, api.ErrArg}, {1, 4, api.ErrArg}, {9, row, api.ErrNoPane}, {0, col, api.ErrNoPane},
			{1, col, api.ErrAlone}, {1, row, api.ErrSide}, {2, row, api.ErrSide}, {3, col, api.ErrSide},
		} {
			l, e := Set(two.list(), c.pane, c.kind, size)
			wantError(t, "Set", l, e, c.want)
		}
	}
	l, e := Set(two.list(), 1, col, 5)
	wantError(t, "no column", l, e, api.ErrAlone)
	l, e = Set(two.list(), 9, row, 5)
	wantError(t, "no such pane", l, e, api.ErrNoPane)
	for _, bad := range noLayouts() {
		l, e := Set(bad.l, 9, 0, 0)
		wantError(t, bad.what, l, e, api.ErrLayout)
	}
}
