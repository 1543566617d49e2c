package scene

import (
	"math"
	"testing"

	"mullion/api"
)

// lies asks where a place lies, and holds it against what is wanted; id 0: nowhere.
func lies(t testing.TB, w api.Window, x, y int, id, column, row int) {
	t.Helper()
	gotId, gotColumn, gotRow, ok := Where(w, x, y)
	if gotId != id || gotColumn != column || gotRow != row || ok != (id != 0) {
		t.Errorf("(%d, %d) is %d, %d, %d, %v, and not %d, %d, %d", x, y, gotId, gotColumn, gotRow, ok, id, column, row)
	}
}

var far = []int{math.MinInt, math.MinInt + 1, -1 << 32, -1, 5, 6, 1000, 1 << 32, math.MaxInt - 1, math.MaxInt}

// Every place of a window with a row and a column: panes, borders, and what lies outside.
func TestP263Where(t *testing.T) {
	w := windowOf(t, "5x3,0,0{2x3,0,0,7,2x3,3,0[2x1,3,0,5,2x1,3,2,9]}", 5)
	for y, row := range []string{"77-55", "77---", "77-99"} {
		for x, letter := range row {
			switch letter {
			case '-':
				lies(t, w, x, y, 0, 0, 0)
			case '7':
				lies(t, w, x, y, 7, x, y)
			case '5':
				lies(t, w, x, y, 5, x-3, y)
			case '9':
				lies(t, w, x, y, 9, x-3, y-2)
			}
		}
	}
	for _, n := range far {
		lies(t, w, n, 0, 0, 0, 0)
		lies(t, w, 0, n, 0, 0, 0)
		lies(t, w, n, n, 0, 0, 0)
	}
	lies(t, w, 0, 3, 0, 0, 0)
	lies(t, w, 4, -1, 0, 0, 0)
}

// A zoomed window is the active pane's everywhere.
func TestP263Zoomed(t *testing.T) {
	w := zoomed(windowOf(t, "5x3,0,0{2x3,0,0,7,2x3,3,0[2x1,3,0,5,2x1,3,2,9]}", 5))
	for _, w.Active = range []int{7, 5, 9} {
		for x := -2; x < 8; x++ {
			for y := -2; y < 6; y++ {
				if 0 <= x && x < 5 && 0 <= y && y < 3 {
					lies(t, w, x, y, w.Active, x, y)
				} else {
					lies(t, w, x, y, 0, 0, 0)
				}
			}
		}
		for _, n := range far {
			lies(t, w, n, 0, 0, 0, 0)
			lies(t, w, 0, n, 0, 0, 0)
		}
	}
}

// In Cells that are no layout nothing lies anywhere.
func TestP263NoWindow(t *testing.T) {
	for _, w := range noWindows(t)[:2*13] {
		for x := range 6 {
			for y := range 4 {
				lies(t, w, x, y, 0, 0, 0)
			}
		}
	}
	for _, l := range [][]api.Cell{nil, {{Kind: api.CellPane, W: 5, H: 3}}, {{Kind: api.CellPane, W: 5, H: 0, Pane: 1}}} {
		lies(t, api.Window{Cells: l, Active: 1}, 0, 0, 0, 0, 0)
		lies(t, api.Window{Cells: l, Active: 1, Zoom: true}, 0, 0, 0, 0, 0)
		lies(t, api.Window{Cells: l}, 0, 0, 0, 0, 0)
		lies(t, api.Window{Cells: l, Zoom: true}, 0, 0, 0, 0, 0)
	}
}

// An Active that is none of the panes counts in a zoomed window alone.
func TestP263NoActive(t *testing.T) {
	w, _ := chapters(t)
	for _, active := range []int{0, 3, -1, math.MaxInt} {
		w.Active = active
		lies(t, w, 1, 2, 1, 1, 2)
		lies(t, w, 3, 0, 2, 0, 0)
		lies(t, w, 2, 0, 0, 0, 0)
		for x := range 5 {
			lies(t, zoomed(w), x, 1, 0, 0, 0)
		}
	}
}

// Every place of every small layout, by the innermost cell around it.
func TestP263EveryLayout(t *testing.T) {
	for _, cells := range everyLayout(5, 5, 4) {
		for _, c := range cells {
			if c.Kind != api.CellPane {
				continue
			}
			w := api.Window{Cells: cells, Active: c.Pane, Zoom: c.Pane%2 == 0}
			for x := -1; x < 7; x++ {
				for y := -1; y < 7; y++ {
					id, column, row, _ := whereOf(w, x, y)
					lies(t, w, x, y, id, column, row)
				}
			}
		}
		if t.Failed() {
			t.Fatal(cells)
		}
	}
}

// What Of shows of a pane lies where Where says.
func TestP263AsItIsShown(t *testing.T) {
	d := dealt(263)
	for range 300 {
		w := d.window(1+d.Intn(20), 1+d.Intn(15), 9)
		shown := filled(w)
		if w.Zoom {
			for i := range shown {
				shown[i] = filling(w.Active, w.Cells[0].W, w.Cells[0].H)
			}
		}
		p := shows(t, asked{w, shown, "", w.Cells[0].W + 2, w.Cells[0].H + 3})
		for i, g := range p.Places {
			id, _, _, ok := Where(w, i%p.W, i/p.W)
			if isDigit := g.Text >= "0" && g.Text <= "9"; ok != isDigit || ok && g.Text != filling(id, 1, 1).Places[0].Text {
				t.Fatalf("the place (%d, %d) holds %q and lies in %d, %v: %s", i%p.W, i/p.W, g.Text, id, ok, seen(p))
			}
		}
	}
}
