package scene

import (
	"testing"

	"mullion/api"
)

// bright is what a border holds that touches the active pane.
var bright = api.Attr{Fore: 3}

// One pane has no borders; the stage is smaller than the window, as great, and greater.
func TestP262OnePane(t *testing.T) {
	w := windowOf(t, "3x2,0,0,1", 1)
	shown := filled(w)
	p := draws(t, w, shown, 5, 4, "111··", "111··", "·····", "ok   ")
	wantMarked(t, p, api.Attr{Marks: api.MarkDim}, "...xx", "...xx", "xxxxx", ".....")
	wantMarked(t, p, api.Attr{Fore: 1, Back: 3}, ".....", ".....", ".....", "xxxxx")
	wantMarked(t, p, api.Attr{}, "xxx..", "xxx..", ".....", ".....")
	draws(t, w, shown, 3, 3, "111", "111", "ok ")
	draws(t, w, shown, 2, 3, "11", "11", "ok")
	draws(t, w, shown, 3, 2, "111", "ok ")
	draws(t, w, shown, 1, 2, "1", "o")
	draws(t, w, shown, 1, 1, "o")
	draws(t, w, shown, 4, 1, "ok  ")
	draws(t, w, shown, 2, 5, "11", "11", "··", "··", "ok")
	draws(t, w, shown, 6, 2, "111···", "ok    ")
}

// Rows, columns, and what joins: each form of a border, by itself.
func TestP262Forms(t *testing.T) {
	for _, c := range []struct {
		plan string
		rows []string
	}{
		{"5x2,0,0{1x2,0,0,1,1x2,2,0,2,1x2,4,0,3}", []string{"1│2│3", "1│2│3"}},
		{"2x5,0,0[2x1,0,0,1,2x1,0,2,2,2x1,0,4,3]", []string{"11", "──", "22", "──", "33"}},
		{"5x3,0,0{2x3,0,0[2x1,0,0,1,2x1,0,2,2],2x3,3,0,3}", []string{"11│33", "──┤33", "22│33"}},
		{"5x3,0,0{2x3,0,0,1,2x3,3,0[2x1,3,0,2,2x1,3,2,3]}", []string{"11│22", "11├──", "11│33"}},
		{"5x3,0,0{2x3,0,0[2x1,0,0,1,2x1,0,2,2],2x3,3,0[2x1,3,0,3,2x1,3,2,4]}", []string{"11│33", "──┼──", "22│44"}},
		{"5x5,0,0{2x5,0,0[2x1,0,0,1,2x1,0,2,2,2x1,0,4,3],2x5,3,0[2x2,3,0,4,2x2,3,3,5]}", []string{"11│44", "──┤44", "22├──", "──┤55", "33│55"}},
		{"3x5,0,0[3x2,0,0{1x2,0,0,1,1x2,2,0,2},3x2,0,3,3]", []string{"1│2", "1│2", "─┴─", "333", "333"}},
		{"3x5,0,0[3x2,0,0,1,3x2,0,3{1x2,0,3,2,1x2,2,3,3}]", []string{"111", "111", "─┬─", "2│3", "2│3"}},
		{"3x5,0,0[3x2,0,0{1x2,0,0,1,1x2,2,0,2},3x2,0,3{1x2,0,3,3,1x2,2,3,4}]", []string{"1│2", "1│2", "─┼─", "3│4", "3│4"}},
		{"5x3,0,0[5x1,0,0{1x1,0,0,1,1x1,2,0,2,1x1,4,0,3},5x1,0,2{2x1,0,2,4,2x1,3,2,5}]", []string{"1│2│3", "─┴┬┴─", "44│55"}},
		{"7x5,0,0{3x5,0,0[3x2,0,0{1x2,0,0,1,1x2,2,0,2},3x2,0,3,3],3x5,4,0[3x1,4,0,4,3x3,4,2{1x3,4,2,5,1x3,6,2,6}]}", []string{"1│2│444", "1│2├─┬─", "─┴─┤5│6", "333│5│6", "333│5│6"}},
	} {
		w := windowOf(t, c.plan, 1)
		wide, high := w.Cells[0].W, w.Cells[0].H
		status := ("ok     ")[:wide]
		draws(t, w, filled(w), wide, high+1, append(c.rows, status)...)
	}
}

// A border that is seen joins one that is not: the stage ends between them.
func TestP262JoinedBeyondTheStage(t *testing.T) {
	w := windowOf(t, "5x3,0,0{2x3,0,0,1,2x3,3,0[2x1,3,0,2,2x1,3,2,3]}", 1)
	draws(t, w, filled(w), 3, 4, "11│", "11├", "11│", "ok ")
	w = windowOf(t, "3x5,0,0[3x2,0,0,1,3x2,0,3{1x2,0,3,2,1x2,2,3,3}]", 1)
	draws(t, w, filled(w), 3, 4, "111", "111", "─┬─", "ok ")
	draws(t, w, filled(w), 2, 5, "11", "11", "─┬", "2│", "ok")
}

// What touches the active pane: each place of the borders that is one step away from its cell, aslant too.
func TestP262Touching(t *testing.T) {
	w := windowOf(t, "5x5,0,0{2x5,0,0[2x1,0,0,1,2x1,0,2,2,2x1,0,4,3],2x5,3,0[2x2,3,0,4,2x2,3,3,5]}", 1)
	for active, want := range [][]string{
		1: {"..x..", "xxx..", ".....", ".....", ".....", "....."},
		2: {".....", "xxx..", "..x..", "xxx..", ".....", "....."},
		3: {".....", ".....", ".....", "xxx..", "..x..", "....."},
		4: {"..x..", "..x..", "..xxx", ".....", ".....", "....."},
		5: {".....", ".....", "..xxx", "..x..", "..x..", "....."},
	} {
		if active > 0 {
			w.Active = active
			p := draws(t, w, filled(w), 5, 6, "11│44", "──┤44", "22├──", "──┤55", "33│55", "ok   ")
			wantMarked(t, p, bright, want...)
		}
	}
	// Aslant alone: the pane's corner is one step from where the borders meet.
	w = windowOf(t, "3x3,0,0[3x1,0,0{1x1,0,0,1,1x1,2,0,2},3x1,0,2{1x1,0,2,3,1x1,2,2,4}]", 4)
	wantMarked(t, draws(t, w, filled(w), 3, 4, "1│2", "─┼─", "3│4", "ok "), bright, "...", ".xx", ".x.", "...")
	w.Active = 1
	wantMarked(t, draws(t, w, filled(w), 3, 4, "1│2", "─┼─", "3│4", "ok "), bright, ".x.", "xx.", "...", "...")
	// Two borders away it is dark.
	w = windowOf(t, "5x1,0,0{1x1,0,0,1,1x1,2,0,2,1x1,4,0,3}", 3)
	wantMarked(t, draws(t, w, filled(w), 5, 2, "1│2│3", "ok   "), bright, "...x.", ".....")
	w.Active = 2
	wantMarked(t, draws(t, w, filled(w), 5, 2, "1│2│3", "ok   "), bright, ".x.x.", ".....")
}

// A letter of a pane that looks like a border is none: its Attr stays.
func TestP262LettersThatLookLikeBorders(t *testing.T) {
	w, shown := chapters(t)
	shown[1] = of("│─", "┼·", "├┤")
	p := draws(t, w, shown, 5, 4, "aa││─", "aa│┼·", "aa│├┤", "ok   ")
	wantMarked(t, p, bright, "..x..", "..x..", "..x..", ".....")
}
