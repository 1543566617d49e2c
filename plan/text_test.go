package plan

import (
	"math"
	"slices"
	"testing"

	"mullion/api"
	"mullion/layout"
)

func pane(depth, w, h, x, y, id int) api.Cell {
	return api.Cell{Depth: depth, Kind: api.CellPane, X: x, Y: y, W: w, H: h, Pane: id}
}

func cut(depth, kind, w, h, x, y int) api.Cell {
	return api.Cell{Depth: depth, Kind: kind, X: x, Y: y, W: w, H: h}
}

// written is layouts and their texts, put down by hand; the sums of those without one are wantSum's.
var written = []struct {
	text, body string
	l          []api.Cell
}{
	{"b25e,80x24,0,0,1", "80x24,0,0,1", []api.Cell{pane(0, 80, 24, 0, 0, 1)}},
	{"020a,80x24,0,0{40x24,0,0,1,39x24,41,0,2}", "80x24,0,0{40x24,0,0,1,39x24,41,0,2}",
		[]api.Cell{cut(0, row, 80, 24, 0, 0), pane(1, 40, 24, 0, 0, 1), pane(1, 39, 24, 41, 0, 2)}},
	{"", "1x1,0,0,1", []api.Cell{pane(0, 1, 1, 0, 0, 1)}},
	{"", "1000x1000,0,0,4611686018427387904", []api.Cell{pane(0, 1000, 1000, 0, 0, api.MaxNumber)}},
	{"", "80x24,0,0[80x12,0,0,9,80x11,0,13,10]",
		[]api.Cell{cut(0, col, 80, 24, 0, 0), pane(1, 80, 12, 0, 0, 9), pane(1, 80, 11, 0, 13, 10)}},
	{"", "7x3,0,0{1x3,0,0,3,1x3,2,0,2,3x3,4,0,1}",
		[]api.Cell{cut(0, row, 7, 3, 0, 0), pane(1, 1, 3, 0, 0, 3), pane(1, 1, 3, 2, 0, 2), pane(1, 3, 3, 4, 0, 1)}},
	// A column in a row: last, first, and between.
	{"", "9x5,0,0{4x5,0,0,1,4x5,5,0[4x2,5,0,2,4x2,5,3,3]}",
		[]api.Cell{cut(0, row, 9, 5, 0, 0), pane(1, 4, 5, 0, 0, 1), cut(1, col, 4, 5, 5, 0), pane(2, 4, 2, 5, 0, 2), pane(2, 4, 2, 5, 3, 3)}},
	{"", "9x5,0,0{4x5,0,0[4x2,0,0,2,4x2,0,3,3],4x5,5,0,1}",
		[]api.Cell{cut(0, row, 9, 5, 0, 0), cut(1, col, 4, 5, 0, 0), pane(2, 4, 2, 0, 0, 2), pane(2, 4, 2, 0, 3, 3), pane(1, 4, 5, 5, 0, 1)}},
	{"", "9x5,0,0{2x5,0,0,4,3x5,3,0[3x2,3,0,2,3x2,3,3,3],2x5,7,0,1}",
		[]api.Cell{cut(0, row, 9, 5, 0, 0), pane(1, 2, 5, 0, 0, 4), cut(1, col, 3, 5, 3, 0), pane(2, 3, 2, 3, 0, 2), pane(2, 3, 2, 3, 3, 3), pane(1, 2, 5, 7, 0, 1)}},
	// Rows in a column, two of them beside each other.
	{"", "5x5,0,0[5x2,0,0{2x2,0,0,1,2x2,3,0,2},5x2,0,3{1x2,0,3,3,3x2,2,3,4}]",
		[]api.Cell{cut(0, col, 5, 5, 0, 0), cut(1, row, 5, 2, 0, 0), pane(2, 2, 2, 0, 0, 1), pane(2, 2, 2, 3, 0, 2),
			cut(1, row, 5, 2, 0, 3), pane(2, 1, 2, 0, 3, 3), pane(2, 3, 2, 2, 3, 4)}},
	// Three brackets that are shut at once, ahead of another cell and at the end.
	{"", "9x5,0,0{7x5,0,0[7x1,0,0,1,7x3,0,2{3x3,0,2,2,3x3,4,2[3x1,4,2,3,3x1,4,4,4]}],1x5,8,0,5}",
		[]api.Cell{cut(0, row, 9, 5, 0, 0), cut(1, col, 7, 5, 0, 0), pane(2, 7, 1, 0, 0, 1), cut(2, row, 7, 3, 0, 2), pane(3, 3, 3, 0, 2, 2),
			cut(3, col, 3, 3, 4, 2), pane(4, 3, 1, 4, 2, 3), pane(4, 3, 1, 4, 4, 4), pane(1, 1, 5, 8, 0, 5)}},
	{"", "7x5,0,0[7x1,0,0,1,7x3,0,2{3x3,0,2,2,3x3,4,2[3x1,4,2,3,3x1,4,4,4]}]",
		[]api.Cell{cut(0, col, 7, 5, 0, 0), pane(1, 7, 1, 0, 0, 1), cut(1, row, 7, 3, 0, 2), pane(2, 3, 3, 0, 2, 2),
			cut(2, col, 3, 3, 4, 2), pane(3, 3, 1, 4, 2, 3), pane(3, 3, 1, 4, 4, 4)}},
}

func TestPL2WrittenTexts(t *testing.T) {
	for _, w := range written {
		was := slices.Clone(w.l)
		want := w.text
		if want == "" {
			want = summed(w.body)
		}
		if got, e := Text(w.l); got != want || e != api.OK {
			t.Errorf("Text = %q, error %d, not %q", got, e, want)
		}
		if !slices.Equal(w.l, was) {
			t.Errorf("Text has changed the list of %q", want)
		}
	}
}

func TestPL2ManyLayouts(t *testing.T) {
	for _, l := range manyLayouts(t) {
		want := summed(wantBody(l, 0))
		if got, e := Text(l); got != want || e != api.OK {
			t.Fatalf("Text = %q, error %d, not %q", got, e, want)
		}
	}
}

// A small sum has noughts ahead.
func TestPL2SumHasFourDigits(t *testing.T) {
	two := func(w, a, b int) []api.Cell {
		return []api.Cell{cut(0, row, w, 24, 0, 0), pane(1, w-40, 24, 0, 0, a), pane(1, 39, 24, w-39, 0, b)}
	}
	for want, l := range map[string][]api.Cell{
		"0000,590x24,0,0{550x24,0,0,36396,39x24,551,0,274634}": two(590, 36396, 274634),
		"0008,446x24,0,0{406x24,0,0,83023,39x24,407,0,183388}": two(446, 83023, 183388),
		"0037,237x24,0,0{197x24,0,0,58465,39x24,198,0,366480}": two(237, 58465, 366480),
		"020a,80x24,0,0{40x24,0,0,1,39x24,41,0,2}":             two(80, 1, 2),
	} {
		if got, e := Text(l); got != want || e != api.OK {
			t.Errorf("Text = %q, error %d, not %q", got, e, want)
		}
		checkParse(t, want)
		checkParse(t, want[1:])
	}
}

func TestPL2NeverTooLong(t *testing.T) {
	ok := good(t)
	greatest := [][]api.Cell{staircase(t), ok(layout.Resize(manyPanes(api.MaxPanes), api.MaxSide, api.MaxSide))}
	for how := api.ArrEvenRow; how <= api.ArrTiled; how++ {
		greatest = append(greatest, ok(layout.Arrange(greatest[1], how, 500)))
	}
	longest := 0
	for _, l := range greatest {
		text, e := Text(l)
		if e != api.OK || len(text) > api.MaxPlan {
			t.Errorf("error %d, %d bytes", e, len(text))
		}
		checkParse(t, text)
		longest = max(longest, len(text))
	}
	if longest < 1600 {
		t.Errorf("the longest text has %d bytes: that tells little", longest)
	}
}

// brokenLayouts is lists that are near to layouts: one field changed, a cell lost, doubled or out of its place.
func brokenLayouts(t *testing.T) [][]api.Cell {
	lists := [][]api.Cell{nil, {}, manyPanes(api.MaxPanes + 1), {{}}, {cut(0, row, 80, 24, 0, 0)}, {cut(0, col, 80, 24, 0, 0), pane(1, 80, 24, 0, 0, 1)}}
	lists = append(lists, []api.Cell{pane(0, 1001, 24, 0, 0, 1)}, []api.Cell{pane(0, 80, 0, 0, 0, 1)}, []api.Cell{pane(0, 80, 24, 0, 0, 0)}, []api.Cell{pane(0, 80, 24, 0, 0, api.MaxNumber+1)})
	of := sample(t)
	for i := range of {
		for _, n := range []int{-1, 1, 1000, math.MaxInt, math.MinInt} {
			fields := []func(c *api.Cell){
				func(c *api.Cell) { c.Depth += n }, func(c *api.Cell) { c.Kind += n }, func(c *api.Cell) { c.X += n },
				func(c *api.Cell) { c.Y += n }, func(c *api.Cell) { c.W += n }, func(c *api.Cell) { c.H += n },
			}
			for _, change := range fields {
				l := slices.Clone(of)
				change(&l[i])
				lists = append(lists, l)
			}
		}
		same := slices.Clone(of)
		same[i].Pane = 2
		other := slices.Clone(of)
		other[i].Pane = -1
		lists = append(lists, other, slices.Delete(slices.Clone(of), i, i+1), slices.Insert(slices.Clone(of), i, of[i]))
		if of[i].Pane != 2 {
			lists = append(lists, same)
		}
	}
	return lists
}

func TestPL2NoLayout(t *testing.T) {
	for _, l := range brokenLayouts(t) {
		was := slices.Clone(l)
		if got, e := Text(l); got != "" || e != api.ErrLayout {
			t.Errorf("Text of %v = %q, error %d", l, got, e)
		}
		if !slices.Equal(l, was) {
			t.Errorf("Text has changed %v", was)
		}
	}
}
