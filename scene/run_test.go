package scene

import (
	"testing"

	"mullion/api"
	"mullion/layout"
	"mullion/paint"
)

// Every layout of a small window with up to five panes, each of them active, zoomed and not, on stages that are smaller, as great and greater.
func TestP262EveryLayout(t *testing.T) {
	forms := map[string]int{}
	for n, cells := range everyLayout(7, 5, 5) {
		w := api.Window{Cells: cells}
		shown := filled(w)
		for _, w.Active = range layout.Panes(cells) {
			w.Zoom = false
			p := shows(t, asked{w, shown, "ok", 8, 7})
			for _, g := range p.Places {
				forms[g.Text]++
			}
			shows(t, asked{w, shown, "ok", 1 + n%9, 1 + n/9%7})
			w.Zoom = true
			shows(t, asked{w, shown, "ok", 1 + n%9, 1 + n/9%7})
		}
	}
	for _, form := range []string{"│", "─", "┤", "├", "┴", "┬", "┼"} {
		if forms[form] < 10 {
			t.Errorf("%s is seen %d times", form, forms[form])
		}
	}
	t.Log(forms)
}

// Every stage for one window with all that may be in it.
func TestP262EveryStage(t *testing.T) {
	w := windowOf(t, "7x5,0,0{3x5,0,0[3x2,0,0{1x2,0,0,1,1x2,2,0,2},3x2,0,3,3],3x5,4,0[3x1,4,0,4,3x3,4,2{1x3,4,2,5,1x3,6,2,6}]}", 1)
	for seed := range 12 {
		d := dealt(262 + seed)
		for _, w.Active = range layout.Panes(w.Cells) {
			for _, w.Zoom = range []bool{false, true} {
				shown := d.pictures(w)
				for width := 1; width < 10; width++ {
					for height := 1; height < 9; height++ {
						shows(t, asked{w, shown, d.status(), width, height})
					}
				}
			}
		}
	}
}

// Windows, pictures and stages that are made by chance.
func TestP262ByChance(t *testing.T) {
	reached := map[string]int{}
	for seed := range 6000 {
		q := dealt(100000 + seed).asked()
		p := shows(t, q)
		note(reached, q, p)
	}
	for _, way := range []string{"zoomed", "not zoomed", "cursor seen", "cursor hidden by its picture", "cursor away", "narrower", "wider", "lower", "higher", "one row", "many panes", "letters cut", "┼"} {
		if reached[way] < 50 {
			t.Errorf("%s: %d times", way, reached[way])
		}
	}
	t.Log(reached)
}

// note counts what was reached.
func note(reached map[string]int, q asked, p api.Picture) {
	count := func(way string, is bool) {
		if is {
			reached[way]++
		}
	}
	whole := q.w.Cells[0]
	own := q.pictureOf(q.w.Active)
	count("zoomed", q.w.Zoom)
	count("not zoomed", !q.w.Zoom)
	count("cursor seen", !p.Hidden)
	count("cursor hidden by its picture", p.Hidden && own.Hidden && p.X+p.Y > 0)
	count("cursor away", p.Hidden && !own.Hidden)
	count("narrower", q.width < whole.W)
	count("wider", q.width > whole.W)
	count("lower", q.height-1 < whole.H)
	count("higher", q.height-1 > whole.H)
	count("one row", q.height == 1)
	count("many panes", len(q.shown) > 4)
	cut, crossed := false, false
	for _, g := range p.Places {
		cut = cut || g.Text == " " && g.Attr != (api.Attr{}) && g.Attr.Back != 3
		crossed = crossed || g.Text == "┼"
	}
	count("letters cut", cut)
	count("┼", crossed)
}

// The greatest windows and stages, with as many panes as may be.
func TestP262Greatest(t *testing.T) {
	const most = api.MaxSide
	cells, _ := layout.New(most, most, 1)
	for id := 2; id <= api.MaxPanes; id++ {
		cells, _ = layout.Split(cells, id/2, api.CellRow+id%2, 0, false, id)
	}
	w := api.Window{Cells: cells, Active: api.MaxPanes}
	d := dealt(262)
	shown := filled(w)
	shown[d.Intn(len(shown))] = d.picture(most, most)
	for _, w.Zoom = range []bool{false, true} {
		for _, size := range [][2]int{{most, 2}, {2, most}, {most, 1}, {1, most}} {
			shows(t, asked{w, shown, "ok", size[0], size[1]})
		}
		q := asked{w, shown, "ok", most, most}
		p, err := Of(w, shown, "ok", most, most)
		if err != api.OK || paint.Check(p) != api.OK {
			t.Fatal(err)
		}
		for range 5000 {
			x, y := d.Intn(most), d.Intn(most-1)
			if got, want := p.Places[most*y+x], q.place(x, y); got != want {
				t.Fatalf("the place (%d, %d) is %v, and not %v", x, y, got, want)
			}
		}
	}
}
