package layout

import (
	"math"
	"testing"

	"mullion/api"
)

func TestP411Swap(t *testing.T) {
	n := rw(pn(1, 40, 24), cl(pn(2, 39, 18), pn(3, 39, 5)))
	for _, c := range []struct {
		a, b int
		want node
	}{
		{1, 3, rw(pn(3, 40, 24), cl(pn(2, 39, 18), pn(1, 39, 5)))},
		{3, 1, rw(pn(3, 40, 24), cl(pn(2, 39, 18), pn(1, 39, 5)))},
		{2, 3, rw(pn(1, 40, 24), cl(pn(3, 39, 18), pn(2, 39, 5)))},
		{1, 1, n}, {3, 3, n},
	} {
		l, e := Swap(n.list(), c.a, c.b)
		wantTree(t, "Swap", l, e, c.want)
	}
	l, e := Swap(pn(5, 3, 3).list(), 5, 5)
	wantTree(t, "the only pane", l, e, pn(5, 3, 3))
	for _, gone := range []int{0, -1, 4, math.MinInt, math.MaxInt} {
		for _, c := range [][2]int{{1, gone}, {gone, 1}, {gone, gone}} {
			l, e := Swap(n.list(), c[0], c[1])
			wantError(t, "no such pane", l, e, api.ErrNoPane)
		}
	}
	for _, bad := range noLayouts() {
		for pane := range 3 {
			l, e := Swap(bad.l, pane, 1)
			wantError(t, bad.what, l, e, api.ErrLayout)
		}
	}
}

func TestP417SwapTwice(t *testing.T) {
	for _, n := range goodTrees() {
		for _, a := range n.ids() {
			for _, b := range n.ids() {
				l, e := Swap(n.list(), a, b)
				if e != api.OK {
					t.Fatal(e)
				}
				back, e := Swap(l, a, b)
				wantTree(t, "Swap twice", back, e, n)
			}
		}
	}
}

// columns is n panes, one below the other, with ids that fall: the order is not that of the ids.
func columns(n, w, h int) node {
	left, kids := h, []node{}
	for i := range n {
		kids = append(kids, pn(n-i, w, 1))
		left -= 2
	}
	if n == 1 {
		return pn(1, w, h)
	}
	kids[n-1].h += left + 1
	return cl(kids...)
}

func TestP412Arrange(t *testing.T) {
	two, three := columns(2, 80, 24), columns(3, 80, 24)
	for _, c := range []struct {
		what      string
		n         node
		how, size int
		want      node
	}{
		{"a row of two", two, api.ArrEvenRow, 0, rw(pn(2, 40, 24), pn(1, 39, 24))},
		{"a row of three", three, api.ArrEvenRow, 7, rw(pn(3, 26, 24), pn(2, 26, 24), pn(1, 26, 24))},
		{"a row of three, one line more", columns(3, 81, 24), api.ArrEvenRow, 0, rw(pn(3, 27, 24), pn(2, 26, 24), pn(1, 26, 24))},
		{"a row of three, two lines more", columns(3, 82, 24), api.ArrEvenRow, 0, rw(pn(3, 27, 24), pn(2, 27, 24), pn(1, 26, 24))},
		{"a column of two", rw(pn(1, 3, 24), pn(2, 4, 24)), api.ArrEvenCol, 0, cl(pn(1, 8, 12), pn(2, 8, 11))},
		{"a column of three", three, api.ArrEvenCol, -1, cl(pn(3, 80, 8), pn(2, 80, 7), pn(1, 80, 7))},
		{"main row of two", two, api.ArrMainRow, 0, cl(pn(2, 80, 12), pn(1, 80, 11))},
		{"main row of three", three, api.ArrMainRow, -7, cl(pn(3, 80, 12), rw(pn(2, 40, 11), pn(1, 39, 11)))},
		{"main row, an odd height", columns(3, 80, 25), api.ArrMainRow, 0, cl(pn(3, 80, 12), rw(pn(2, 40, 12), pn(1, 39, 12)))},
		{"main row, size 1", three, api.ArrMainRow, 1, cl(pn(3, 80, 1), rw(pn(2, 40, 22), pn(1, 39, 22)))},
		{"main row, size 20", three, api.ArrMainRow, 20, cl(pn(3, 80, 20), rw(pn(2, 40, 3), pn(1, 39, 3)))},
		{"main row, the greatest size", three, api.ArrMainRow, 22, cl(pn(3, 80, 22), rw(pn(2, 40, 1), pn(1, 39, 1)))},
		{"main row, too great", three, api.ArrMainRow, 23, cl(pn(3, 80, 22), rw(pn(2, 40, 1), pn(1, 39, 1)))},
		{"main row, far too great", two, api.ArrMainRow, math.MaxInt, cl(pn(2, 80, 22), pn(1, 80, 1))},
		{"main column of two", two, api.ArrMainCol, math.MinInt, rw(pn(2, 40, 24), pn(1, 39, 24))},
		{"main column of three", three, api.ArrMainCol, 60, rw(pn(3, 60, 24), cl(pn(2, 19, 12), pn(1, 19, 11)))},
		{"main column of three, half", three, api.ArrMainCol, 0, rw(pn(3, 40, 24), cl(pn(2, 39, 12), pn(1, 39, 11)))},
		{"main column, too great", three, api.ArrMainCol, 79, rw(pn(3, 78, 24), cl(pn(2, 1, 12), pn(1, 1, 11)))},
		{"main column, far too great", three, api.ArrMainCol, math.MaxInt, rw(pn(3, 78, 24), cl(pn(2, 1, 12), pn(1, 1, 11)))},
		{"tiles of two", two, api.ArrTiled, 9, cl(pn(2, 80, 12), pn(1, 80, 11))},
		{"tiles of three", three, api.ArrTiled, 0, cl(rw(pn(3, 40, 12), pn(2, 39, 12)), pn(1, 80, 11))},
		{"tiles of four", columns(4, 80, 24), api.ArrTiled, 0, cl(rw(pn(4, 40, 12), pn(3, 39, 12)), rw(pn(2, 40, 11), pn(1, 39, 11)))},
		{"tiles of five", columns(5, 80, 24), api.ArrTiled, 0, cl(rw(pn(5, 40, 8), pn(4, 39, 8)), rw(pn(3, 40, 7), pn(2, 39, 7)), pn(1, 80, 7))},
		{"tiles of six", columns(6, 80, 24), api.ArrTiled, 0, cl(rw(pn(6, 40, 8), pn(5, 39, 8)), rw(pn(4, 40, 7), pn(3, 39, 7)), rw(pn(2, 40, 7), pn(1, 39, 7)))},
		{
			"tiles of eight", columns(8, 80, 24), api.ArrTiled, 0,
			cl(rw(pn(8, 26, 8), pn(7, 26, 8), pn(6, 26, 8)), rw(pn(5, 26, 7), pn(4, 26, 7), pn(3, 26, 7)), rw(pn(2, 40, 7), pn(1, 39, 7))),
		},
	} {
		l, e := Arrange(c.n.list(), c.how, c.size)
		wantTree(t, c.what, l, e, c.want)
	}
}

func TestP412ArrangeOfOnePane(t *testing.T) {
	for how := api.ArrEvenRow; how <= api.ArrTiled; how++ {
		for _, size := range far {
			for _, n := range []node{pn(7, 80, 24), pn(1, 1, 1), pn(2, 1000, 1)} {
				l, e := Arrange(n.list(), how, size)
				wantTree(t, "one pane", l, e, n)
			}
		}
	}
}

func TestP412ArrangeWithoutRoom(t *testing.T) {
	row5 := rw(pn(1, 1, 1), pn(2, 1, 1), pn(3, 1, 1), pn(4, 1, 1), pn(5, 1, 1))
	for _, c := range []struct {
		what      string
		n         node
		how, size int
		small     bool
	}{
		{"as narrow as a row can be", row5, api.ArrEvenRow, 0, false},
		{"a column of one line", row5, api.ArrEvenCol, 0, true},
		{"a row one too narrow", columns(3, 4, 20), api.ArrEvenRow, 0, true},
		{"a row just wide enough", columns(3, 5, 20), api.ArrEvenRow, 0, false},
		{"a row that the borders alone fill", columns(5, 4, 20), api.ArrEvenRow, 0, true},
		{"a row narrower than its borders", columns(5, 1, 20), api.ArrEvenRow, 0, true},
		{"main row in one line", row5, api.ArrMainRow, 0, true},
		{"main row in two lines", rw(pn(1, 4, 2), pn(2, 4, 2)), api.ArrMainRow, 0, true},
		{"main row in two lines, with a size", rw(pn(1, 4, 2), pn(2, 4, 2)), api.ArrMainRow, 1, true},
		{"main row in two lines, too great a size", rw(pn(1, 4, 2), pn(2, 4, 2)), api.ArrMainRow, 99, true},
		{"main row in three lines", rw(pn(1, 4, 3), pn(2, 4, 3)), api.ArrMainRow, 0, false},
		{"main row in three lines, too great a size", rw(pn(1, 4, 3), pn(2, 4, 3)), api.ArrMainRow, 99, false},
		{"main row: the others too narrow", columns(4, 4, 20), api.ArrMainRow, 0, true},
		{"main row: the others just wide enough", columns(4, 5, 20), api.ArrMainRow, 0, false},
		{"main column: the others too low", rw(pn(1, 9, 4), pn(2, 9, 4), pn(3, 9, 4), pn(4, 9, 4)), api.ArrMainCol, 0, true},
		{"main column: the others just high enough", rw(pn(1, 9, 5), pn(2, 9, 5), pn(3, 9, 5), pn(4, 9, 5)), api.ArrMainCol, 0, false},
		{"main column in two lines", columns(2, 2, 20), api.ArrMainCol, 1, true},
		{"tiles too low", rw(pn(1, 9, 4), pn(2, 9, 4), pn(3, 9, 4), pn(4, 9, 4), pn(5, 9, 4)), api.ArrTiled, 0, true},
		{"tiles just high enough", rw(pn(1, 9, 5), pn(2, 9, 5), pn(3, 9, 5), pn(4, 9, 5), pn(5, 9, 5)), api.ArrTiled, 0, false},
		{"tiles too narrow", columns(5, 2, 20), api.ArrTiled, 0, true},
		{"tiles just wide enough", columns(5, 3, 20), api.ArrTiled, 0, false},
	} {
		l, e := Arrange(c.n.list(), c.how, c.size)
		want, wantE := modelArrange(c.n.list(), c.how, c.size)
		if wantE == api.ErrSmall != c.small {
			t.Errorf("%s: the model says %d", c.what, wantE)
		}
		if c.small {
			wantError(t, c.what, l, e, api.ErrSmall)
		} else {
			wantTree(t, c.what, l, e, treeOf(want))
		}
	}
}

func TestP412ArrangeOfAllNumbersOfPanes(t *testing.T) {
	for n := 1; n <= api.MaxPanes; n++ {
		for _, side := range [][2]int{{200, 100}, {70, 64}, {7, 64}, {1000, 1000}} {
			l := columns(n, side[0], side[1]).list()
			for how := api.ArrEvenRow; how <= api.ArrTiled; how++ {
				for _, size := range []int{0, 1, 9, 69, 5000} {
					want, wantE := modelArrange(l, how, size)
					got, e := Arrange(l, how, size)
					if wantE != api.OK {
						wantError(t, "Arrange", got, e, wantE)
						continue
					}
					wantTree(t, "Arrange", got, e, treeOf(want))
				}
			}
		}
	}
}

func TestP412ArrangeErrors(t *testing.T) {
	for _, how := range []int{0, 6, -1, math.MinInt, math.MaxInt} {
		for _, n := range []node{pn(1, 1, 1), rw(pn(1, 1, 1), pn(2, 1, 1))} {
			l, e := Arrange(n.list(), how, 0)
			wantError(t, "an arrangement that is none", l, e, api.ErrArg)
		}
		for _, bad := range noLayouts() {
			l, e := Arrange(bad.l, how, 0)
			wantError(t, bad.what, l, e, api.ErrLayout)
		}
	}
	for _, bad := range noLayouts() {
		l, e := Arrange(bad.l, api.ArrTiled, 0)
		wantError(t, bad.what, l, e, api.ErrLayout)
	}
}
