package scene

import (
	"slices"
	"testing"

	"mullion/api"
	"mullion/layout"
	"mullion/paint"
	"mullion/vt"
)

// Whatever is laid, it is a picture; and a terminal that is painted one after the other shows each.
func TestP264Painted(t *testing.T) {
	for seed := range 60 {
		d := dealt(26400 + seed)
		width, height := 1+d.Intn(16), 1+d.Intn(10)
		terminal, _ := vt.New(width, height, 0)
		at := terminal.Picture()
		for range 12 {
			q := d.asked()
			q.width, q.height = width, height
			p, err := Of(q.w, q.shown, q.status, q.width, q.height)
			if err != api.OK || paint.Check(p) != api.OK {
				t.Fatalf("%d, %s for %s", err, seen(p), q.told())
			}
			data, err := paint.Bytes(at, p)
			terminal.Feed(data)
			if at = terminal.Picture(); err != api.OK || !paint.Same(at, p) {
				t.Fatalf("painted (%d) it is %s\nand not %s", err, seen(at), seen(p))
			}
		}
	}
}

// Letters of width 2 are cut at each column, by cells and by stages of each width.
func TestP264CutEverywhere(t *testing.T) {
	rows := []string{"一_二_三_四_", "a一_二_三_b", "一_a二_b三_", "ab一_c二_d"}
	for left := 1; left < 7; left++ {
		cells, _ := layout.New(8, 4, 1)
		cells, _ = layout.Split(cells, 1, api.CellRow, 7-left, false, 2)
		for _, zoom := range []bool{false, true} {
			w := api.Window{Cells: cells, Active: 1 + left%2, Zoom: zoom}
			for width := 1; width < 11; width++ {
				shown := []api.Picture{with(of(rows...), api.Attr{Fore: 2}), with(of(rows...), api.Attr{Back: 3})}
				p, err := Of(w, shown, rows[width%4], width, 5)
				if err != api.OK || paint.Check(p) != api.OK {
					t.Errorf("%d, %s", err, seen(p))
				}
				shows(t, asked{w, shown, rows[width%4], width, 5})
			}
		}
	}
}

// Where there is room, each place of each pane is seen as its picture has it; of the active one, if the window is zoomed.
func TestP265SeenWhole(t *testing.T) {
	for seed := range 400 {
		d := dealt(26500 + seed)
		w := d.window(1+d.Intn(20), 1+d.Intn(15), 9)
		var shown []api.Picture
		for _, id := range layout.Panes(w.Cells) {
			i, _ := layout.Find(w.Cells, id)
			shown = append(shown, d.picture(w.Cells[i].W, w.Cells[i].H))
		}
		whole := w.Cells[0]
		if w.Zoom {
			shown[slices.Index(layout.Panes(w.Cells), w.Active)] = d.picture(whole.W, whole.H)
		}
		for _, more := range []int{0, 1, 5} {
			p, err := Of(w, shown, "status", whole.W+more, whole.H+1+more)
			if err != api.OK {
				t.Fatal(err)
			}
			for n, id := range layout.Panes(w.Cells) {
				x, y := 0, 0
				if i, _ := layout.Find(w.Cells, id); !w.Zoom {
					x, y = w.Cells[i].X, w.Cells[i].Y
				} else if id != w.Active {
					continue
				}
				wantWhole(t, p, shown[n], x, y)
			}
		}
	}
}

func wantWhole(t *testing.T, p, part api.Picture, x, y int) {
	t.Helper()
	for i, g := range part.Places {
		if got := p.Places[p.W*(y+i/part.W)+x+i%part.W]; got != g {
			t.Fatalf("place %d of a pane at (%d, %d) is %v, and not %v: %s", i, x, y, got, g, seen(p))
		}
	}
}
