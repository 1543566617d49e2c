package layout

import (
	"math"
	"slices"
	"testing"

	"mullion/api"
)

var far = []int{math.MinInt, -api.MaxSide, -1, 0, 1, api.MaxSide, math.MaxInt}

func TestP43PanesAndFind(t *testing.T) {
	for _, n := range goodTrees() {
		l := n.list()
		ids := Panes(l)
		if !slices.Equal(ids, n.ids()) {
			t.Errorf("Panes: %v, not %v", ids, n.ids())
		}
		for i, c := range l {
			if c.Kind != api.CellPane {
				continue
			}
			if at, ok := Find(l, c.Pane); at != i || !ok {
				t.Errorf("Find(%d): %d, %v, not %d", c.Pane, at, ok, i)
			}
		}
		for _, id := range []int{math.MinInt, -1, 0, 77, api.MaxNumber - 1, api.MaxNumber + 1, math.MaxInt} {
			if at, ok := Find(l, id); at != 0 || ok {
				t.Errorf("Find(%d): %d, %v", id, at, ok)
			}
		}
	}
	if ids := Panes(deep().list()); !slices.Equal(ids, []int{1, 2, 3, 4, 5, 6, 7, 8, 9}) {
		t.Errorf("Panes: %v", ids)
	}
}

func TestP43AtEveryPlace(t *testing.T) {
	for _, n := range []node{pn(1, 1, 1), rw(pn(1, 4, 3), pn(2, 5, 3)), deep(), manyPanes(api.MaxPanes), staircase()} {
		l := n.list()
		lines := painted(l)
		for y := -2; y < n.h+2; y++ {
			for x := -2; x < n.w+2; x++ {
				want := 0
				if y >= 0 && y < n.h && x >= 0 && x < n.w {
					want = lines[y][x]
				}
				if id, ok := At(l, x, y); id != want || ok != (want != 0) {
					t.Fatalf("At(%d, %d): %d, %v, not %d in%s", x, y, id, ok, want, show(l))
				}
			}
		}
		for _, d := range far {
			for _, place := range [][2]int{{d, 0}, {0, d}, {d, d}} {
				id, ok := At(l, place[0], place[1])
				if inside := d == 0 || d == 1 && n.w > 1 && n.h > 1; !inside && (id != 0 || ok) {
					t.Errorf("At(%v): %d, %v", place, id, ok)
				}
			}
		}
	}
}

func TestP43ListsThatAreNoLayout(t *testing.T) {
	for _, bad := range noLayouts() {
		if ids := Panes(bad.l); len(ids) != 0 {
			t.Errorf("%s: Panes %v", bad.what, ids)
		}
		for id := range 5 {
			if at, ok := Find(bad.l, id); at != 0 || ok {
				t.Errorf("%s: Find %d, %v", bad.what, at, ok)
			}
			if at, ok := At(bad.l, id, id); at != 0 || ok {
				t.Errorf("%s: At %d, %v", bad.what, at, ok)
			}
		}
	}
}

func TestP44Least(t *testing.T) {
	for _, c := range []struct {
		n    node
		w, h int
	}{
		{pn(1, 80, 24), 1, 1}, {pn(1, 1, 1), 1, 1},
		{rw(pn(1, 40, 24), pn(2, 39, 24)), 3, 1},
		{cl(pn(1, 80, 12), pn(2, 80, 11)), 1, 3},
		{rw(pn(1, 5, 9), pn(2, 5, 9), pn(3, 5, 9)), 5, 1},
		{rw(pn(1, 40, 24), cl(pn(2, 39, 18), pn(3, 39, 5))), 3, 3},
		{cl(pn(1, 80, 10), rw(pn(2, 20, 13), pn(3, 59, 13))), 3, 3},
		{cl(rw(pn(1, 20, 10), pn(2, 29, 10)), rw(pn(3, 10, 13), pn(4, 20, 13), pn(5, 18, 13))), 5, 3},
		{deep(), 1 + 1 + 3 + 1 + 3, 5},
		{manyPanes(api.MaxPanes), 63, 1},
		{staircase(), 31, 33},
	} {
		if w, h, e := Least(c.n.list()); w != c.w || h != c.h || e != api.OK {
			t.Errorf("Least: %d x %d, error %d, not %d x %d of%s", w, h, e, c.w, c.h, show(c.n.list()))
		}
	}
	for _, bad := range noLayouts() {
		if w, h, e := Least(bad.l); w != 0 || h != 0 || e != api.ErrLayout {
			t.Errorf("%s: %d x %d, error %d", bad.what, w, h, e)
		}
	}
}

func TestP413Next(t *testing.T) {
	l := rw(pn(5, 10, 9), cl(pn(9, 10, 4), pn(2, 10, 4)), pn(7, 3, 9)).list()
	for _, c := range []struct{ pane, n, id int }{
		{5, 0, 5}, {5, 1, 9}, {5, 2, 2}, {5, 3, 7}, {5, 4, 5}, {5, 5, 9}, {7, 1, 5}, {2, 7, 9},
		{5, -1, 7}, {5, -2, 2}, {9, -1, 5}, {9, -2, 7}, {5, -4, 5}, {7, -9, 2}, {9, 4000000, 9}, {9, -4000001, 5},
		{5, math.MaxInt, 7}, {9, math.MaxInt, 5}, {5, math.MinInt, 5}, {7, math.MinInt, 7}, {7, math.MinInt + 1, 5}, {7, math.MaxInt, 2},
	} {
		if id, e := Next(l, c.pane, c.n); id != c.id || e != api.OK {
			t.Errorf("Next(%d, %d): %d, error %d, not %d", c.pane, c.n, id, e, c.id)
		}
	}
	for _, n := range far {
		if id, e := Next(pn(4, 3, 3).list(), 4, n); id != 4 || e != api.OK {
			t.Errorf("Next of the only pane by %d: %d, error %d", n, id, e)
		}
		for _, tree := range []node{rw(pn(1, 1, 1), pn(2, 1, 1), pn(3, 1, 1)), deep(), manyPanes(api.MaxPanes)} {
			for _, pane := range tree.ids() {
				want, _ := modelNext(tree.list(), pane, n)
				if id, e := Next(tree.list(), pane, n); id != want || e != api.OK {
					t.Errorf("Next(%d, %d): %d, error %d, not %d", pane, n, id, e, want)
				}
			}
		}
	}
	for _, pane := range []int{0, -1, 1, math.MaxInt} {
		if id, e := Next(l, pane, 1); id != 0 || e != api.ErrNoPane {
			t.Errorf("Next(%d): %d, error %d", pane, id, e)
		}
	}
	for _, bad := range noLayouts() {
		if id, e := Next(bad.l, 1, 0); id != 0 || e != api.ErrLayout {
			t.Errorf("%s: %d, error %d", bad.what, id, e)
		}
	}
}

func TestP414Beside(t *testing.T) {
	two := rw(pn(1, 40, 24), cl(pn(2, 39, 18), pn(3, 39, 5)))
	// Pane 4 lies below the border between 1 and 2, and 5 meets 3 at a corner alone.
	knot := cl(rw(pn(1, 3, 2), pn(2, 3, 2), pn(3, 3, 2)), rw(pn(4, 7, 2), pn(5, 3, 2)))
	// Pane 5 is one line high, and at the opposite edge there is a border in just that line.
	ends := func(cut, across func(...node) node, w, h int) []node {
		halves := across(pn(1, 1+w, 1+h), pn(2, 1+w, 1+h))
		middle := pn(3, halves.w, halves.h)
		thirds := across(pn(4, 1, 1), pn(5, 1, 1), pn(6, 1, 1))
		return []node{cut(halves, middle, thirds), cut(thirds, middle, halves)}
	}
	flat, tall := ends(rw, cl, 0, 1), ends(cl, rw, 1, 0)
	for _, c := range []struct {
		n              node
		pane, side, id int
	}{
		{flat[0], 5, api.SideRight, 0}, {flat[0], 4, api.SideRight, 1}, {flat[0], 6, api.SideRight, 2}, {flat[0], 5, api.SideLeft, 3},
		{flat[1], 5, api.SideLeft, 0}, {flat[1], 4, api.SideLeft, 1}, {flat[1], 6, api.SideLeft, 2}, {flat[1], 5, api.SideRight, 3},
		{tall[0], 5, api.SideDown, 0}, {tall[0], 4, api.SideDown, 1}, {tall[0], 6, api.SideDown, 2}, {tall[0], 5, api.SideUp, 3},
		{tall[1], 5, api.SideUp, 0}, {tall[1], 4, api.SideUp, 1}, {tall[1], 6, api.SideUp, 2}, {tall[1], 5, api.SideDown, 3},
		{two, 1, api.SideRight, 2}, {two, 1, api.SideLeft, 2}, {two, 2, api.SideLeft, 1}, {two, 3, api.SideLeft, 1},
		{two, 2, api.SideRight, 1}, {two, 3, api.SideRight, 1}, {two, 2, api.SideDown, 3}, {two, 3, api.SideUp, 2},
		{two, 2, api.SideUp, 3}, {two, 3, api.SideDown, 2}, {two, 1, api.SideUp, 0}, {two, 1, api.SideDown, 0},
		{knot, 1, api.SideDown, 4}, {knot, 2, api.SideDown, 4}, {knot, 3, api.SideDown, 5}, {knot, 4, api.SideUp, 1}, {knot, 5, api.SideUp, 3},
		{knot, 4, api.SideDown, 1}, {knot, 5, api.SideDown, 3}, {knot, 2, api.SideUp, 4}, {knot, 3, api.SideUp, 5},
		{knot, 3, api.SideRight, 1}, {knot, 1, api.SideLeft, 3}, {knot, 4, api.SideLeft, 5}, {knot, 5, api.SideRight, 4}, {knot, 2, api.SideRight, 3},
		{pn(1, 9, 9), 1, api.SideLeft, 0}, {pn(1, 9, 9), 1, api.SideRight, 0}, {pn(1, 9, 9), 1, api.SideUp, 0}, {pn(1, 9, 9), 1, api.SideDown, 0},
		{two, 1, 0, 0}, {two, 1, 5, 0}, {two, 1, -1, 0}, {two, 1, math.MaxInt, 0}, {two, 1, math.MinInt, 0},
		{two, 9, api.SideLeft, 0}, {two, 0, api.SideLeft, 0}, {two, -1, api.SideRight, 0},
	} {
		if id, ok := Beside(c.n.list(), c.pane, c.side); id != c.id || ok != (c.id != 0) {
			t.Errorf("Beside(%d, %d): %d, %v, not %d in%s", c.pane, c.side, id, ok, c.id, show(c.n.list()))
		}
	}
	for _, n := range []node{two, knot, flat[0], flat[1], tall[0], tall[1], deep(), manyPanes(api.MaxPanes), staircase()} {
		for _, pane := range n.ids() {
			for side := range 6 {
				want, met := modelBeside(n.list(), pane, side)
				if id, ok := Beside(n.list(), pane, side); id != want || ok != met {
					t.Errorf("Beside(%d, %d): %d, %v, not %d in%s", pane, side, id, ok, want, show(n.list()))
				}
			}
		}
	}
	for _, bad := range noLayouts() {
		for side := range 6 {
			if id, ok := Beside(bad.l, 1, side); id != 0 || ok {
				t.Errorf("%s: Beside %d, %v", bad.what, id, ok)
			}
		}
	}
}
