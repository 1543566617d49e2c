package target

import (
	"fmt"
	"testing"

	"mullion/api"
	"mullion/layout"
)

// paned gives a session 1 "one" with window 1 "w" of these cells, and window 2 "v" with pane 90.
func paned(cells []api.Cell, active, last int) api.State {
	return state(
		session(1, "one", 5, -1, link(5, 1), link(8, 2)),
		api.Window{Id: 1, Name: "w", Cells: cells, Active: active, Last: last, Zoom: len(cells) > 1},
		window(2, "v", 90, 0, 90),
	)
}

// fourPanes: pane 7 at the left over the whole height, 3 above 9 at its right, and 4 at the right of 9.
func fourPanes(t *testing.T) []api.Cell {
	l, err := layout.New(80, 24, 7)
	for _, c := range []struct{ pane, kind, id int }{{7, api.CellRow, 3}, {3, api.CellCol, 9}, {9, api.CellRow, 4}} {
		if err == api.OK {
			l, err = layout.Split(l, c.pane, c.kind, 0, false, c.id)
		}
	}
	if err != api.OK {
		t.Fatal(err)
	}
	return l
}

// wantPane asks for a pane part of window 1, in all ways; pane 0: an error.
func wantPane(t *testing.T, s api.State, part string, pane int) {
	t.Helper()
	want := answer{place(1, 5, 1, pane), api.OK}
	if pane == 0 {
		want = answer{err: api.ErrTarget}
	}
	for _, text := range []string{"." + part, "w." + part, ":w." + part, "one:." + part, "$1:5." + part, "@1." + part} {
		finder{t, s, 1}.answers(text, api.MeanPane, want)
	}
	if part != "" && pane != 0 {
		finder{t, s, 1}.answers(part, api.MeanPane, want)
	}
	finder{t, s, 2}.answers("one:w."+part, api.MeanPane, want)
}

func TestT5NothingSaid(t *testing.T) {
	for _, active := range []int{7, 3, 9, 4} {
		wantPane(t, paned(fourPanes(t), active, 0), "", active)
	}
}

func TestT5Id(t *testing.T) {
	s := paned(fourPanes(t), 3, 7)
	for _, pane := range []int{7, 3, 9, 4} {
		wantPane(t, s, fmt.Sprint("%", pane), pane)
	}
	for _, part := range []string{"%1", "%0", "%", "%03", "%x", "%3x", "%%3", "@1", "$1", "%4611686018427387904"} {
		wantPane(t, s, part, 0)
	}
	wantPane(t, s, "%90", 0) // it stands in the other window
	finder{t, s, 1}.means("v.%90", api.MeanPane, place(1, 8, 2, 90))
	finder{t, s, 1}.fails("v.%3", api.MeanPane, api.ErrTarget)
}

func TestT5Last(t *testing.T) {
	wantPane(t, paned(fourPanes(t), 3, 9), "!", 9)
	wantPane(t, paned(fourPanes(t), 9, 7), "!", 7)
	wantPane(t, paned(fourPanes(t), 3, 0), "!", 0)
	wantPane(t, paned(fourPanes(t), 3, 9), "!!", 0)
	wantPane(t, paned(fourPanes(t), 3, 9), "!1", 0)
}

// The order of the layout is 7, 3, 9, 4.
func TestT5Steps(t *testing.T) {
	s := paned(fourPanes(t), 3, 0)
	for part, pane := range map[string]int{
		"+": 9, "+1": 9, "+2": 4, "+3": 7, "+4": 3, "+0": 3, "-0": 3, "-": 7, "-1": 7, "-2": 4, "-3": 9, "-4": 3,
	} {
		wantPane(t, s, part, pane)
	}
	wantPane(t, paned(fourPanes(t), 4, 0), "+", 7)
	wantPane(t, paned(fourPanes(t), 7, 0), "-", 4)
	finder{t, s, 1}.means("v.+", api.MeanPane, place(1, 8, 2, 90))
	finder{t, s, 1}.means("v.-", api.MeanPane, place(1, 8, 2, 90))
}

func TestT5Directions(t *testing.T) {
	for _, c := range []struct{ active, left, right, up, down int }{
		{7, 3, 3, 0, 0}, // at the left edge the other edge counts; above and below there is nothing but itself
		{3, 7, 7, 9, 9},
		{9, 7, 4, 3, 3},
		{4, 9, 7, 3, 3},
	} {
		s := paned(fourPanes(t), c.active, 0)
		wantPane(t, s, "{left-of}", c.left)
		wantPane(t, s, "{right-of}", c.right)
		wantPane(t, s, "{up-of}", c.up)
		wantPane(t, s, "{down-of}", c.down)
	}
	s := paned(fourPanes(t), 9, 0)
	for _, side := range []string{"left", "right", "up", "down"} {
		finder{t, s, 1}.fails("v.{"+side+"-of}", api.MeanPane, api.ErrTarget)
	}
	for _, part := range []string{"{left}", "{left-of", "left-of}", "left-of", "{Left-of}", "{left-of}1", " {left-of}", "{}", "{", "{top}", "{next}", "{right_of}"} {
		wantPane(t, s, part, 0)
	}
}

func TestT5Number(t *testing.T) {
	s := paned(fourPanes(t), 9, 0)
	for n, pane := range []int{7, 3, 9, 4} {
		wantPane(t, s, fmt.Sprint(n), pane)
	}
	for _, part := range []string{"4", "7", "9", "32", "00", "01", "0x", " 0", "4611686018427387904", "4611686018427387905", "-x"} {
		wantPane(t, s, part, 0)
	}
	finder{t, s, 1}.means("v.0", api.MeanPane, place(1, 8, 2, 90))
	finder{t, s, 1}.fails("v.1", api.MeanPane, api.ErrTarget)
}

func TestT5NothingElse(t *testing.T) {
	s := paned(fourPanes(t), 9, 3)
	for _, part := range []string{"^", "$", "=", "=w", "w", "one", "*", "?", "[0-9]", "=7", "@1", "$1", ".", "0.", ":", "\n", "\xff", "==", "last", "active"} {
		wantPane(t, s, part, 0)
	}
}
