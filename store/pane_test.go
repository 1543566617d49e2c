package store

import (
	"math"
	"testing"

	"mullion/api"
)

func closePane(pane int) call { return call{name: "ClosePane", a: pane} }

func zoom(pane int) call { return call{name: "Zoom", a: pane} }

func swap(a, b int) call { return call{name: "Swap", a: a, b: b} }

func TestS11Split(t *testing.T) {
	d := small(t).all(newSession("a"))
	for i, x := range []struct {
		do   call
		want string
	}{
		{chosen(splitRow(1)), "@1 sh 80x24{40x24%1 39x24%2} now 2 last 1"},
		{call{name: "Split", a: 2, b: api.CellCol, c: 5}, "@1 sh 80x24{40x24%1 39x24[39x18%2 39x5%3]} now 2 last 1"},
		{call{name: "Split", a: 3, b: api.CellCol, c: 9, yes: true, also: true}, "@1 sh 80x24{40x24%1 39x24[39x18%2 39x3%4 39x1%3]} now 4 last 2"},
		{call{name: "Split", a: 1, b: api.CellRow, c: -7, yes: true}, "@1 sh 80x24{19x24%5 20x24%1 39x24[39x18%2 39x3%4 39x1%3]} now 4 last 2"},
	} {
		if a := d.must(x.do); a.n != i+2 {
			t.Errorf("%v = %d; want %d", x.do, a.n, i+2)
		}
		d.windowIs(x.want)
		// Each split begins with a zoom, which it ends.
		d.must(zoom(d.s.State().Windows[0].Active))
		if !d.s.State().Windows[0].Zoom {
			t.Fatal("not zoomed")
		}
	}
	d = threePanes(t)
	d.must(splitCol(1))
	d.windowIs("@1 sh 80x24{40x24[40x12%1 40x11%4] 39x24[39x12%2 39x11%3]} now 3 last 2")
	d.all(zoom(3), chosen(splitRow(4)))
	d.windowIs("@1 sh 80x24{40x24[40x12%1 40x11{20x11%4 19x11%5}] 39x24[39x12%2 39x11%3]} now 5 last 3")
}

func TestS11SplitErrors(t *testing.T) {
	d := threePanes(t)
	for _, pane := range noIds() {
		d.fails(call{name: "Split", a: pane, b: 9}, api.ErrNoPane)
		d.fails(chosen(splitRow(pane)), api.ErrNoPane)
	}
	for _, kind := range []int{math.MinInt, -1, 0, api.CellPane, 4, math.MaxInt} {
		d.fails(chosen(call{name: "Split", a: 1, b: kind}), api.ErrArg)
	}
	d.must(resize(1, 5, 5))
	d.windowIs("@1 sh 5x5{2x5%1 2x5[2x2%2 2x2%3]} now 3 last 2 zoom")
	d.fails(splitRow(1), api.ErrSmall)
	d.fails(chosen(splitCol(2)), api.ErrSmall)
	// None of these has used an id up.
	if a := d.must(splitCol(1)); a.n != 4 {
		t.Errorf("the next pane is %d; want 4", a.n)
	}
	full := filled(t, 1, 1, 32, 1)
	full.fails(splitRow(1), api.ErrFull)
	full.fails(call{name: "Split", a: 1, b: 9}, api.ErrFull)
	full.fails(splitRow(33), api.ErrNoPane)
	full.must(closePane(7))
	if a := full.must(splitRow(1)); a.n != 33 {
		t.Errorf("the next pane is %d; want 33", a.n)
	}
	full.fails(splitCol(1), api.ErrFull)
	// The panes of all windows count.
	several := filled(t, 4, 16, 32, 16)
	several.fails(splitRow(9), api.ErrFull)
	several.all(closeWindow(9), splitRow(8))
	several.fails(splitRow(8), api.ErrFull)
}

// What becomes active and last when a pane goes, by each of the ways.
func TestS11ClosePaneActiveAndLast(t *testing.T) {
	// A row of %1, %2, %3, %4, in the order 1 3 2 4 by a swap; %1 is active and there is no last one.
	base := func() *desk { return small(t).all(newSession("a"), splitRow(1), splitRow(2), splitRow(3), swap(2, 3)) }
	base().windowIs("@1 sh 80x24{40x24%1 19x24%3 9x24%2 9x24%4} now 1 last 0")
	for _, x := range []struct {
		chosen []int
		close  int
		want   string
	}{
		{nil, 1, "@1 sh 80x24{60x24%3 9x24%2 9x24%4} now 3 last 0"},               // the first: the one behind it
		{[]int{2}, 3, "@1 sh 80x24{60x24%1 9x24%2 9x24%4} now 2 last 1"},          // neither
		{[]int{2}, 1, "@1 sh 80x24{60x24%3 9x24%2 9x24%4} now 2 last 0"},          // the last one
		{[]int{2}, 2, "@1 sh 80x24{40x24%1 29x24%3 9x24%4} now 1 last 0"},         // the active one: the last
		{[]int{4, 2}, 2, "@1 sh 80x24{40x24%1 29x24%3 9x24%4} now 4 last 0"},      // .. behind it too
		{nil, 4, "@1 sh 80x24{40x24%1 19x24%3 19x24%2} now 1 last 0"},             // neither, and no last
		{[]int{1}, 2, "@1 sh 80x24{40x24%1 29x24%3 9x24%4} now 1 last 0"},         // .. in the middle
		{[]int{3, 4, 3}, 4, "@1 sh 80x24{40x24%1 19x24%3 19x24%2} now 3 last 0"},  // the last one
		{[]int{3, 4, 3}, 3, "@1 sh 80x24{60x24%1 9x24%2 9x24%4} now 4 last 0"},    // the active one: the last
		{[]int{2, 4, 2, 4}, 3, "@1 sh 80x24{60x24%1 9x24%2 9x24%4} now 4 last 2"}, // neither
	} {
		for _, zoomed := range []bool{false, true} {
			d := base()
			for _, pane := range x.chosen {
				d.must(choosePane(pane))
			}
			if zoomed {
				d.must(zoom(d.s.State().Windows[0].Active))
			}
			d.all(write(x.close, "x"), closePane(x.close))
			d.windowIs(x.want)
			d.fails(closePane(x.close), api.ErrNoPane)
			d.fails(write(x.close, "x"), api.ErrNoPane)
		}
	}
	// No last one any more: the one ahead in the order of the layout, from each place.
	for _, x := range []struct{ close, want int }{{3, 1}, {2, 3}, {4, 2}} {
		d := base().all(splitRow(1), choosePane(5), choosePane(x.close), closePane(5))
		d.must(closePane(x.close))
		if w := d.s.State().Windows[0]; w.Active != x.want || w.Last != 0 {
			t.Errorf("behind %d goes: active %d, last %d; want %d, 0", x.close, w.Active, w.Last, x.want)
		}
	}
	// The order is that of the layout, not of the places: in a column of a row, the pane ahead is the one above.
	d := small(t).all(newSession("a"), splitRow(1), splitCol(1), splitCol(2), choosePane(3), choosePane(2), closePane(3))
	d.windowIs("@1 sh 80x24{40x24%1 39x24[39x12%2 39x11%4]} now 2 last 0")
	d.must(closePane(2))
	d.windowIs("@1 sh 80x24{40x24%1 39x24%4} now 1 last 0")
}

func TestS11CloseTheOnlyPane(t *testing.T) {
	d := small(t).all(newSession("a"), newSession("b"), chosen(newWindow(1, 3)), link(2, 8, 3), link(1, 5, 3), newSession("c"), link(3, 9, 3), unlink(3, 0))
	d.sessionsAre("$1 a 0@1 3@3 5@3 now 3 last 0\n$2 b 0@2 8@3 now 0 last -1\n$3 c 9@3 now 9 last -1")
	d.must(closePane(3))
	d.is("$1 a 0@1 now 0 last -1", "$2 b 0@2 now 0 last -1", "@1 sh 80x24%1 now 1 last 0", "@2 sh 80x24%2 now 2 last 0")
	for _, pane := range []int{3, 4, 0, -1, math.MaxInt, math.MinInt} {
		d.fails(closePane(pane), api.ErrNoPane)
	}
	d.all(closePane(1), closePane(2))
	d.is("")
}

func TestS11ChoosePane(t *testing.T) {
	d := threePanes(t)
	for _, x := range []struct {
		pane int
		want string
	}{
		{3, "now 3 last 2 zoom"}, {1, "now 1 last 3"}, {1, "now 1 last 3"}, {3, "now 3 last 1"}, {2, "now 2 last 3"}, {3, "now 3 last 2"},
	} {
		d.must(choosePane(x.pane))
		d.windowIs("@1 sh 80x24{40x24%1 39x24[39x12%2 39x11%3]} " + x.want)
	}
	for _, pane := range noIds() {
		d.fails(choosePane(pane), api.ErrNoPane)
	}
	// Another window's panes are its own.
	d.all(newWindow(1, -1), splitRow(4), choosePane(5))
	d.is("$1 a 0@1 1@2 now 0 last -1", "@1 sh 80x24{40x24%1 39x24[39x12%2 39x11%3]} now 3 last 2", "@2 sh 80x24{40x24%4 39x24%5} now 5 last 4")
}

func push(pane, kind, n int) call { return call{name: "Push", a: pane, b: kind, c: n} }

func set(pane, kind, size int) call { return call{name: "Set", a: pane, b: kind, c: size} }

func TestS12PushAndSet(t *testing.T) {
	for _, x := range []struct {
		do   call
		want string
	}{
		{push(1, api.CellRow, 5), "80x24{45x24%1 34x24[34x12%2 34x11%3]}"},
		{push(2, api.CellRow, -5), "80x24{35x24%1 44x24[44x12%2 44x11%3]}"},
		{push(3, api.CellCol, 100), "80x24{40x24%1 39x24[39x22%2 39x1%3]}"},
		{push(3, api.CellCol, math.MinInt), "80x24{40x24%1 39x24[39x1%2 39x22%3]}"},
		{push(1, api.CellRow, 0), "80x24{40x24%1 39x24[39x12%2 39x11%3]}"},
		{set(1, api.CellRow, 50), "80x24{50x24%1 29x24[29x12%2 29x11%3]}"},
		{set(3, api.CellRow, 50), "80x24{29x24%1 50x24[50x12%2 50x11%3]}"},
		{set(3, api.CellCol, 1000), "80x24{40x24%1 39x24[39x1%2 39x22%3]}"},
		{set(2, api.CellCol, 12), "80x24{40x24%1 39x24[39x12%2 39x11%3]}"},
	} {
		d := threePanes(t)
		d.must(x.do)
		d.windowIs("@1 sh " + x.want + " now 3 last 2")
	}
	d := threePanes(t)
	for _, pane := range noIds() {
		d.fails(push(pane, 9, 1), api.ErrNoPane)
		d.fails(set(pane, 9, 0), api.ErrNoPane)
	}
	for _, kind := range []int{math.MinInt, -1, 0, api.CellPane, 4, math.MaxInt} {
		d.fails(push(3, kind, 1), api.ErrArg)
		d.fails(set(3, kind, 0), api.ErrArg)
	}
	d.fails(push(1, api.CellCol, 1), api.ErrAlone)
	d.fails(set(1, api.CellCol, 0), api.ErrAlone)
	for _, size := range []int{math.MinInt, -1, 0, 1001, math.MaxInt} {
		d.fails(set(3, api.CellCol, size), api.ErrSide)
	}
	one := small(t).all(newSession("a"))
	one.fails(push(1, api.CellRow, 1), api.ErrAlone)
	one.fails(set(1, api.CellRow, 1), api.ErrAlone)
}

func TestS13Zoom(t *testing.T) {
	one := small(t).all(newSession("a"))
	one.fails(zoom(1), api.ErrOnly)
	for _, pane := range noIds() {
		one.fails(zoom(pane), api.ErrNoPane)
	}
	d := threePanes(t)
	for _, x := range []struct {
		pane int
		want string
	}{
		{3, "now 3 last 2"},      // ends, by the active one
		{3, "now 3 last 2 zoom"}, // begins, with the active one
		{1, "now 3 last 2"},      // ends, by another one, which is not made active
		{1, "now 1 last 3 zoom"}, // begins, with another one
		{2, "now 1 last 3"},      // ends
		{2, "now 2 last 1 zoom"},
		{2, "now 2 last 1"},
	} {
		d.must(zoom(x.pane))
		d.windowIs("@1 sh 80x24{40x24%1 39x24[39x12%2 39x11%3]} " + x.want)
	}
	// Each window has its own, and it ends with the second but last pane.
	d.all(newWindow(1, -1), splitRow(4), zoom(4), zoom(1))
	d.is("$1 a 0@1 1@2 now 0 last -1", "@1 sh 80x24{40x24%1 39x24[39x12%2 39x11%3]} now 1 last 2 zoom", "@2 sh 80x24{40x24%4 39x24%5} now 4 last 0 zoom")
	d.all(closePane(5))
	d.fails(zoom(4), api.ErrOnly)
	d.must(splitRow(4))
	d.is("$1 a 0@1 1@2 now 0 last -1", "@1 sh 80x24{40x24%1 39x24[39x12%2 39x11%3]} now 1 last 2 zoom", "@2 sh 80x24{40x24%4 39x24%6} now 4 last 0")
}

func TestS14SwapWithinOneWindow(t *testing.T) {
	for _, x := range []struct {
		a, b int
		want string
	}{
		{1, 3, "80x24{40x24%3 39x24[39x12%2 39x11%1]} now 3 last 2"},
		{3, 2, "80x24{40x24%1 39x24[39x12%3 39x11%2]} now 3 last 2"},
		{1, 2, "80x24{40x24%2 39x24[39x12%1 39x11%3]} now 3 last 2"},
		{1, 1, "80x24{40x24%1 39x24[39x12%2 39x11%3]} now 3 last 2 zoom"},
		{3, 3, "80x24{40x24%1 39x24[39x12%2 39x11%3]} now 3 last 2 zoom"},
	} {
		d := threePanes(t)
		d.must(swap(x.a, x.b))
		d.windowIs("@1 sh " + x.want)
	}
}

func TestS14SwapBetweenTwo(t *testing.T) {
	base := func() *desk {
		// Window 2 in another session, a column of %4 and %5, %5 active, no last one; then both are zoomed.
		d := threePanes(t).all(newSession("b"), splitCol(4), choosePane(5), splitCol(4), closePane(4), zoom(5))
		d.is("$1 a 0@1 now 0 last -1", "$2 b 0@2 now 0 last -1", "@1 sh 80x24{40x24%1 39x24[39x12%2 39x11%3]} now 3 last 2 zoom", "@2 sh 80x24[80x12%6 80x11%5] now 5 last 0 zoom")
		return d
	}
	for _, x := range []struct {
		a, b     int
		one, two string
	}{
		{3, 5, "80x24{40x24%1 39x24[39x12%2 39x11%5]} now 5 last 2", "80x24[80x12%6 80x11%3] now 3 last 0"}, // active and active
		{2, 5, "80x24{40x24%1 39x24[39x12%5 39x11%3]} now 3 last 5", "80x24[80x12%6 80x11%2] now 2 last 0"}, // last and active
		{1, 5, "80x24{40x24%5 39x24[39x12%2 39x11%3]} now 3 last 2", "80x24[80x12%6 80x11%1] now 1 last 0"}, // neither and active
		{3, 6, "80x24{40x24%1 39x24[39x12%2 39x11%6]} now 6 last 2", "80x24[80x12%3 80x11%5] now 5 last 0"}, // active and neither
		{1, 6, "80x24{40x24%6 39x24[39x12%2 39x11%3]} now 3 last 2", "80x24[80x12%1 80x11%5] now 5 last 0"}, // neither
	} {
		for _, do := range []call{swap(x.a, x.b), swap(x.b, x.a)} {
			d := base()
			d.must(do)
			d.is("$1 a 0@1 now 0 last -1", "$2 b 0@2 now 0 last -1", "@1 sh "+x.one, "@2 sh "+x.two)
		}
	}
	// Last and last; and a window's only pane.
	d := base().all(choosePane(6), swap(2, 5))
	d.is("$1 a 0@1 now 0 last -1", "$2 b 0@2 now 0 last -1", "@1 sh 80x24{40x24%1 39x24[39x12%5 39x11%3]} now 3 last 5", "@2 sh 80x24[80x12%6 80x11%2] now 6 last 2")
	d = small(t).all(newSession("a"), newSession("b"), write(1, "one"), swap(1, 2))
	d.is("$1 a 0@1 now 0 last -1", "$2 b 0@2 now 0 last -1", "@1 sh 80x24%2 now 2 last 0", "@2 sh 80x24%1 now 1 last 0")
	if text, _, _ := d.s.Read(1, 0, 9); text != "one" {
		t.Errorf("the pane %%1 has %q", text)
	}
	d.must(closeWindow(1))
	d.fails(write(2, "x"), api.ErrNoPane)
	d.must(write(1, "x"))
}

func TestS14SwapErrors(t *testing.T) {
	d := threePanes(t)
	for _, pane := range noIds() {
		d.fails(swap(pane, 1), api.ErrNoPane)
		d.fails(swap(1, pane), api.ErrNoPane)
		d.fails(swap(pane, pane), api.ErrNoPane)
	}
}
