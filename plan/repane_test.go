package plan

import (
	"math"
	"slices"
	"testing"

	"mullion/api"
	"mullion/layout"
)

// wantRepane puts the numbers in by the places that layout.Find tells.
func wantRepane(l []api.Cell, panes []int) []api.Cell {
	other := slices.Clone(l)
	for i, id := range layout.Panes(l) {
		at, _ := layout.Find(l, id)
		other[at].Pane = panes[i]
	}
	return other
}

func TestPL4OtherPanes(t *testing.T) {
	l := sample(t)
	now := layout.Panes(l)
	if !slices.Equal(now, []int{1, 2, 14, 5, 3}) {
		t.Fatalf("the panes are %v", now)
	}
	backwards := slices.Clone(now)
	slices.Reverse(backwards)
	for _, panes := range [][]int{
		now, backwards, {2, 14, 5, 3, 1}, {6, 7, 8, 9, 10}, {10, 9, 8, 7, 6}, {1, 2, 14, 5, 4}, {9, 2, 14, 5, 3},
		{1, api.MaxNumber, 2, api.MaxNumber - 1, 3},
	} {
		got, e := Repane(l, panes)
		if e != api.OK || !slices.Equal(got, wantRepane(l, panes)) || !slices.Equal(layout.Panes(got), panes) {
			t.Errorf("Repane to %v: %v, error %d", panes, got, e)
		}
	}
}

func TestPL4OnePane(t *testing.T) {
	l := []api.Cell{pane(0, 80, 24, 0, 0, 1)}
	for _, id := range []int{1, 2, api.MaxNumber} {
		got, e := Repane(l, []int{id})
		if e != api.OK || !slices.Equal(got, []api.Cell{pane(0, 80, 24, 0, 0, id)}) {
			t.Errorf("Repane to %d: %v, error %d", id, got, e)
		}
	}
	if l[0].Pane != 1 {
		t.Error("Repane has changed the list")
	}
}

func wantNoPanes(t *testing.T, l []api.Cell, panes []int, want api.Errno) {
	t.Helper()
	list, numbers := slices.Clone(l), slices.Clone(panes)
	if got, e := Repane(l, panes); got != nil || e != want {
		t.Errorf("Repane of %v to %v: %v, error %d, not %d", l, panes, got, e, want)
	}
	if !slices.Equal(l, list) || !slices.Equal(panes, numbers) {
		t.Errorf("Repane has changed %v or %v", list, numbers)
	}
}

func TestPL4NotThesePanes(t *testing.T) {
	one := []api.Cell{pane(0, 80, 24, 0, 0, 1)}
	l := sample(t)
	for _, panes := range [][]int{nil, {}, {1, 2}, {0}, {-1}, {api.MaxNumber + 1}, {math.MaxInt}, {math.MinInt}} {
		wantNoPanes(t, one, panes, api.ErrArg)
	}
	for _, panes := range [][]int{
		nil, {}, {1}, {1, 2, 14, 5}, {1, 2, 14, 5, 3, 6}, {1, 2, 14, 5, 3, 3}, {1, 2, 14, 5, 3, 0}, make([]int, 5), make([]int, 9),
		{0, 2, 14, 5, 3}, {1, 2, 0, 5, 3}, {1, 2, 14, 5, 0}, {-1, 2, 14, 5, 3}, {1, 2, 14, 5, -3},
		{api.MaxNumber + 1, 2, 14, 5, 3}, {1, 2, 14, 5, api.MaxNumber + 1}, {1, 2, math.MaxInt, 5, 3}, {1, math.MinInt, 14, 5, 3},
		{1, 1, 14, 5, 3}, {1, 2, 14, 5, 1}, {1, 2, 5, 5, 3}, {7, 7, 7, 7, 7}, {1, api.MaxNumber, 2, api.MaxNumber, 3},
	} {
		wantNoPanes(t, l, panes, api.ErrArg)
	}
	// As many numbers as there are cells, or rows and columns too, are not as many as there are panes.
	for n := range 70 {
		var panes []int
		for i := range n {
			panes = append(panes, i+1)
		}
		if n != 5 {
			wantNoPanes(t, l, panes, api.ErrArg)
		}
	}
}

// The list comes first: with panes that fit, with panes that don't, and with none.
func TestPL4NoLayout(t *testing.T) {
	for _, l := range brokenLayouts(t) {
		for _, panes := range [][]int{nil, {1}, {1, 2, 14, 5, 3}, {0}, {1, 1}} {
			wantNoPanes(t, l, panes, api.ErrLayout)
		}
	}
	// It is no layout but for a number that would be put right.
	twice := []api.Cell{cut(0, row, 3, 1, 0, 0), pane(1, 1, 1, 0, 0, 4), pane(1, 1, 1, 2, 0, 4)}
	wantNoPanes(t, twice, []int{1, 2}, api.ErrLayout)
	wantNoPanes(t, []api.Cell{pane(0, 80, 24, 0, 0, 0)}, []int{1}, api.ErrLayout)
}

func TestPL4ManyLayouts(t *testing.T) {
	for _, l := range manyLayouts(t) {
		panes := layout.Panes(l)
		for i := range panes {
			panes[i] = (i*7+5)%len(panes)*100 + i + 1
		}
		got, e := Repane(l, panes)
		if e != api.OK || !slices.Equal(got, wantRepane(l, panes)) || layout.Check(got) != api.OK {
			t.Fatalf("Repane of %v to %v: %v, error %d", l, panes, got, e)
		}
		wantNoPanes(t, l, append(panes, 99999), api.ErrArg)
	}
}
