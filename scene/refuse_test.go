package scene

import (
	"fmt"
	"math"
	"slices"
	"testing"

	"mullion/api"
)

// plain is a question that is not refused: a row of two panes.
func plain(t testing.TB) asked {
	w, shown := chapters(t)
	return asked{w, shown, "ok", 6, 4}
}

// The sides that may be are those from 1 to MaxSide, each by itself.
func TestP262Sides(t *testing.T) {
	good := []int{1, 2, 5, 80, 999, api.MaxSide}
	bad := []int{0, -1, api.MaxSide + 1, math.MinInt, math.MaxInt, 1 << 32, 1<<32 + 1}
	for _, width := range append(good, bad...) {
		for _, height := range append(good, bad...) {
			q := plain(t)
			q.width, q.height = width, height
			if slices.Contains(bad, width) || slices.Contains(bad, height) {
				refuses(t, q, 41)
			} else if width*height < 100000 {
				shows(t, q)
			} else if p, err := Of(q.w, q.shown, "ok", width, height); err != api.OK || p.W != width || p.H != height || len(p.Places) != width*height {
				t.Errorf("%d x %d answers %d", width, height, err)
			}
		}
	}
}

// noWindows are windows whose Cells are no layout, or whose Active is none of its panes.
func noWindows(t testing.TB) []api.Window {
	var list []api.Window
	for _, change := range []func(w *api.Window){
		func(w *api.Window) { w.Cells = nil },
		func(w *api.Window) { w.Cells = []api.Cell{} },
		func(w *api.Window) { w.Cells[0].W = 6 },
		func(w *api.Window) { w.Cells[0].H = 2 },
		func(w *api.Window) { w.Cells[0].X = 1 },
		func(w *api.Window) { w.Cells[0].Kind = api.CellCol },
		func(w *api.Window) { w.Cells[0].Kind = 7 },
		func(w *api.Window) { w.Cells[2].X = 2 },
		func(w *api.Window) { w.Cells[2].Pane = 1 },
		func(w *api.Window) { w.Cells[2].Pane = 0 },
		func(w *api.Window) { w.Cells[2].Depth = 3 },
		func(w *api.Window) { w.Cells[2].Depth = -1 },
		func(w *api.Window) { w.Cells = w.Cells[:2] },
		func(w *api.Window) { w.Active = 0 },
		func(w *api.Window) { w.Active = 3 },
		func(w *api.Window) { w.Active = -1 },
		func(w *api.Window) { w.Active = math.MaxInt },
	} {
		w, _ := chapters(t)
		change(&w)
		list = append(list, w, zoomed(w))
	}
	return list
}

func TestP262NoWindow(t *testing.T) {
	for _, w := range noWindows(t) {
		q := plain(t)
		q.w = w
		refuses(t, q, 40)
	}
}

// The pictures are just as many as the panes, whether all of these are seen or not.
func TestP262HowManyPictures(t *testing.T) {
	one := of("a")
	for _, plan := range []string{"1x1,0,0,1", "5x3,0,0{2x3,0,0,1,2x3,3,0,2}", "5x3,0,0[5x1,0,0,1,5x1,0,2{2x1,0,2,2,2x1,3,2,3}]"} {
		w := windowOf(t, plan, 1)
		panes := len(filled(w))
		for _, w := range []api.Window{w, zoomed(w)} {
			for n := range panes + 4 {
				q := asked{w, slices.Repeat([]api.Picture{one}, n), "ok", 6, 4}
				if n == panes {
					shows(t, q)
				} else {
					refuses(t, q, 1)
				}
			}
		}
	}
}

// noPictures are some that may not be.
func noPictures() []api.Picture {
	wide := of("\u4e00_", "ab")
	var list []api.Picture
	for _, change := range []func(p *api.Picture){
		func(p *api.Picture) { *p = api.Picture{} },
		func(p *api.Picture) { p.W = 0 },
		func(p *api.Picture) { p.W = 3 },
		func(p *api.Picture) { p.H = 1 },
		func(p *api.Picture) { p.Places = p.Places[:3] },
		func(p *api.Picture) { p.Places = append(p.Places, p.Places[0]) },
		func(p *api.Picture) { p.X = 2 },
		func(p *api.Picture) { p.Y = -1 },
		func(p *api.Picture) { p.Title = "a\n" },
		func(p *api.Picture) { p.Places[1] = of("a").Places[0] },
		func(p *api.Picture) { p.Places[0] = of("a").Places[0] },
		func(p *api.Picture) { p.Places[1].Attr.Fore = 1 },
		func(p *api.Picture) { p.Places[3] = wide.Places[0] },
		func(p *api.Picture) { p.Places[2].Text = "ab" },
		func(p *api.Picture) { p.Places[2].Text = "" },
		func(p *api.Picture) { p.Places[2].Width = 3 },
		func(p *api.Picture) { p.Places[2].Attr.Marks = 256 },
	} {
		p := with(wide, api.Attr{})
		change(&p)
		list = append(list, p)
	}
	return list
}

// Each picture must be one, also that of a pane that is not seen.
func TestP262NoPicture(t *testing.T) {
	for n, bad := range noPictures() {
		for at := range 2 {
			q := plain(t)
			q.shown[at] = bad
			for _, q.w.Zoom = range []bool{false, true} {
				for q.height = 1; q.height < 5; q.height++ {
					if refuses(t, q, 200); t.Failed() {
						t.Fatalf("picture %d", n)
					}
				}
			}
		}
	}
}

// Of several errors the first one is told.
func TestP262WhichError(t *testing.T) {
	order := []api.Errno{41, 40, 1, 200}
	for faults := range 16 {
		q := plain(t)
		want := api.Errno(0)
		for i, err := range order {
			if faults>>i&1 == 1 && want == 0 {
				want = err
			}
		}
		if faults&8 > 0 {
			q.shown[1] = api.Picture{}
		}
		if faults&4 > 0 {
			q.shown = q.shown[1:]
		}
		for _, spoil := range []func(q *asked){func(q *asked) { q.width = 0 }, func(q *asked) { q.height = 0 }, func(q *asked) { q.width, q.height = 1001, -1 }} {
			for _, w := range []api.Window{{}, {Active: 1}, {Cells: q.w.Cells, Active: 3}, {Cells: q.w.Cells[:2], Active: 1}} {
				q := q
				if faults&1 > 0 {
					spoil(&q)
				}
				if faults&2 > 0 {
					q.w = w
				}
				if want == 0 {
					shows(t, q)
				} else {
					refuses(t, q, want)
				}
			}
		}
		if t.Failed() {
			t.Fatal(fmt.Sprint("faults ", faults))
		}
	}
}
