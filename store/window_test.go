package store

import (
	"math"
	"testing"

	"mullion/api"
	"mullion/layout"
)

func TestS7NewWindow(t *testing.T) {
	d := small(t).all(opened("a", "", 10, 10), newSession("b"))
	for i, x := range []struct {
		do    call
		index int
		links string
	}{
		{newWindow(1, -1), 1, "$1 a 0@1 1@3 now 0 last -1"},
		{newWindow(1, 3), 3, "$1 a 0@1 1@3 3@4 now 0 last -1"},
		{chosen(newWindow(1, -1)), 2, "$1 a 0@1 1@3 2@5 3@4 now 2 last 0"},
		{named(newWindow(1, 9999), "vi"), 9999, "$1 a 0@1 1@3 2@5 3@4 9999@6 now 2 last 0"},
		{chosen(newWindow(1, -1)), 4, "$1 a 0@1 1@3 2@5 3@4 4@7 9999@6 now 4 last 2"},
		{chosen(named(newWindow(1, 17), "two words")), 17, "$1 a 0@1 1@3 2@5 3@4 4@7 17@8 9999@6 now 17 last 4"},
	} {
		n := i + 3
		a := d.must(x.do)
		if a.place != (api.Place{Session: 1, Index: x.index, Window: n, Pane: n}) {
			t.Errorf("%v = %v", x.do, a.place)
		}
		s := d.s.State()
		if got := show(api.State{Sessions: s.Sessions[:1]}); got != x.links {
			t.Errorf("behind %v: %q; want %q", x.do, got, x.links)
		}
		w := s.Windows[len(s.Windows)-1]
		name := x.do.text
		if name == "" {
			name = "sh"
		}
		if w.Id != n || w.Name != name || showCells(w.Cells) != "80x24%"+string(rune('0'+n)) || w.Active != n || w.Last != 0 || w.Zoom {
			t.Errorf("behind %v the window is %v", x.do, w)
		}
	}
	d.all(call{name: "Unlink", a: 1, b: 0}, newWindow(1, -1))
	if x := d.s.State().Sessions[0]; x.Links[0] != (api.Link{Index: 0, Window: 9}) {
		t.Errorf("the free index 0 is not taken first: %v", x.Links)
	}
}

func TestS7NewWindowErrors(t *testing.T) {
	d := small(t).all(newSession("a"), newSession("b"), newWindow(1, 9999))
	for _, index := range []int{math.MinInt, -10000, -2, 10000, math.MaxInt} {
		d.fails(newWindow(1, index), api.ErrArg)
		d.fails(named(newWindow(1, index), "a:b"), api.ErrArg)
		d.fails(newWindow(3, index), api.ErrNoSession)
	}
	for _, name := range noNames() {
		d.fails(named(newWindow(1, -1), name), api.ErrName)
		d.fails(named(chosen(newWindow(1, 0)), name), api.ErrName)
	}
	d.fails(newWindow(1, 0), api.ErrTaken)
	d.fails(chosen(newWindow(1, 9999)), api.ErrTaken)
	d.must(newWindow(2, 9999))
	for _, id := range []int{0, -1, 3, math.MinInt, math.MaxInt} {
		d.fails(named(newWindow(id, 0), "a:b"), api.ErrNoSession)
	}
	for _, x := range []struct{ sessions, windows, panes, links int }{{1, 16, 16, 16}, {1, 1, 32, 1}, {1, 1, 1, 32}} {
		d := filled(t, x.sessions, x.windows, x.panes, x.links)
		d.fails(newWindow(1, -1), api.ErrFull)
		d.fails(chosen(newWindow(1, 9999)), api.ErrFull)
		d.fails(newWindow(1, 0), api.ErrTaken)
		d.fails(named(newWindow(1, 0), "a:b"), api.ErrName)
		d.fails(newWindow(1, 10000), api.ErrArg)
		d.fails(newWindow(2, 10000), api.ErrNoSession)
	}
	for _, x := range []struct{ sessions, windows, panes, links int }{{8, 15, 15, 15}, {1, 1, 31, 1}, {1, 1, 1, 31}} {
		d := filled(t, x.sessions, x.windows, x.panes, x.links)
		d.must(newWindow(1, -1))
		d.fails(newWindow(1, -1), api.ErrFull)
	}
}

func closeWindow(id int) call { return call{name: "CloseWindow", a: id} }

func TestS7CloseWindow(t *testing.T) {
	// Window 1 is linked twice in session 1, and alone in session 3, whose own window went.
	d := small(t).all(newSession("a"), newSession("b"), newSession("c"), link(1, 4, 1), newWindow(1, 2), link(2, 8, 1), link(3, 6, 1),
		call{name: "Unlink", a: 3, b: 0}, choose(1, 4), choose(2, 8), splitRow(1))
	d.is("$1 a 0@1 2@4 4@1 now 4 last 0", "$2 b 0@2 8@1 now 8 last 0", "$3 c 6@1 now 6 last -1",
		"@1 sh 80x24{40x24%1 39x24%5} now 1 last 0", "@2 sh 80x24%2 now 2 last 0", "@4 sh 80x24%4 now 4 last 0")
	d.must(closeWindow(1))
	d.is("$1 a 2@4 now 2 last -1", "$2 b 0@2 now 0 last -1", "@2 sh 80x24%2 now 2 last 0", "@4 sh 80x24%4 now 4 last 0")
	for pane, lives := range []bool{false, false, true, false, true, false} {
		if _, _, ok := d.s.Extent(pane); ok != lives {
			t.Errorf("the pane %d lives: %v", pane, ok)
		}
	}
	for _, id := range []int{1, 3, 0, -1, 5, math.MinInt, math.MaxInt} {
		d.fails(closeWindow(id), api.ErrNoWindow)
	}
	d.all(closeWindow(4), closeWindow(2))
	d.is("")
}

// The links go by rising index: what becomes current at the first is asked again at the next.
func TestS7CloseWindowByRisingIndex(t *testing.T) {
	base := func() *desk {
		return small(t).all(newSession("a"), newWindow(1, 3), link(1, 5, 1), newWindow(1, 7), link(1, 9, 1))
	}
	for _, x := range []struct {
		chosen []int
		want   string
	}{
		{[]int{0}, "$1 a 3@2 7@3 now 3 last -1"},       // 0 goes: the least, 3
		{[]int{5}, "$1 a 3@2 7@3 now 3 last -1"},       // 0, the last one, goes; 5 goes: the greatest below, 3
		{[]int{9}, "$1 a 3@2 7@3 now 7 last -1"},       // .. 9 goes: 7
		{[]int{7, 9}, "$1 a 3@2 7@3 now 7 last -1"},    // 9 goes: the last one, 7
		{[]int{7, 5}, "$1 a 3@2 7@3 now 7 last -1"},    // 5 goes: the last one, 7
		{[]int{5, 9}, "$1 a 3@2 7@3 now 7 last -1"},    // 5, the last one, goes; 9 goes: 7
		{[]int{9, 5}, "$1 a 3@2 7@3 now 7 last -1"},    // 5 goes: the last one, 9; 9 goes: 7
		{[]int{9, 0}, "$1 a 3@2 7@3 now 7 last -1"},    // 0 goes: 9; 9 goes: 7
		{[]int{3, 0}, "$1 a 3@2 7@3 now 3 last -1"},    // 0 goes: 3
		{[]int{3, 7}, "$1 a 3@2 7@3 now 7 last 3"},     // neither is touched
		{[]int{9, 3}, "$1 a 3@2 7@3 now 3 last -1"},    // 9, the last one, goes
		{[]int{5, 0}, "$1 a 3@2 7@3 now 3 last -1"},    // 0 goes: 5; 5 goes: 3
		{[]int{3, 5, 9}, "$1 a 3@2 7@3 now 7 last -1"}, // 5, the last one, goes; 9 goes: 7
	} {
		d := base()
		for _, index := range x.chosen {
			d.must(choose(1, index))
		}
		d.must(closeWindow(1))
		if got := show(api.State{Sessions: d.s.State().Sessions}); got != x.want {
			t.Errorf("chosen %v: %q; want %q", x.chosen, got, x.want)
		}
	}
}

func TestS7RenameWindow(t *testing.T) {
	rename := func(id int, name string) call { return call{name: "RenameWindow", a: id, text: name} }
	d := small(t).all(newSession("a"), newWindow(1, -1))
	for _, name := range goodNames() {
		// Two windows may have one name, and one may have a session's.
		d.all(rename(1, name), rename(2, name), rename(2, "a"), rename(2, "a"))
		d.is("$1 a 0@1 1@2 now 0 last -1", "@1 "+name+" 80x24%1 now 1 last 0", "@2 a 80x24%2 now 2 last 0")
	}
	for _, name := range append(noNames(), "") {
		d.fails(rename(2, name), api.ErrName)
		d.fails(rename(3, name), api.ErrNoWindow)
	}
	for _, id := range []int{0, -1, 3, math.MinInt, math.MaxInt} {
		d.fails(rename(id, "x"), api.ErrNoWindow)
	}
}

func resize(window, w, h int) call { return call{name: "Resize", a: window, b: w, c: h} }

func arrange(window, how, size int) call { return call{name: "Arrange", a: window, b: how, c: size} }

// threePanes: window 1 is a row of %1 and a column of %2 and %3; %3 is active and zoomed, %2 the last one.
func threePanes(t *testing.T) *desk {
	t.Helper()
	d := small(t).all(newSession("a"), chosen(splitRow(1)), chosen(splitCol(2)), call{name: "Zoom", a: 3})
	d.is("$1 a 0@1 now 0 last -1", "@1 sh 80x24{40x24%1 39x24[39x12%2 39x11%3]} now 3 last 2 zoom")
	return d
}

func (d *desk) windowIs(want string) {
	d.t.Helper()
	if got := show(api.State{Windows: d.s.State().Windows[:1]}); got != want {
		d.t.Errorf("the window is %q; want %q", got, want)
	}
}

func TestS12Resize(t *testing.T) {
	d := threePanes(t)
	d.must(resize(1, 100, 50))
	d.windowIs("@1 sh 100x50{50x50%1 49x50[49x25%2 49x24%3]} now 3 last 2 zoom")
	d.must(resize(1, 3, 3))
	d.windowIs("@1 sh 3x3{1x3%1 1x3[1x1%2 1x1%3]} now 3 last 2 zoom")
	for _, x := range []struct{ w, h int }{{2, 3}, {3, 2}, {1, 1}} {
		d.fails(resize(1, x.w, x.h), api.ErrSmall)
	}
	d.must(resize(1, 1000, 1000))
	d.must(resize(1, 1000, 1000))
	for _, n := range []int{math.MinInt, -1, 0, 1001, math.MaxInt} {
		d.fails(resize(1, n, 24), api.ErrSide)
		d.fails(resize(1, 80, n), api.ErrSide)
		d.fails(resize(1, 2, n), api.ErrSide)
		d.fails(resize(2, n, n), api.ErrNoWindow)
		d.fails(resize(n, 80, 24), api.ErrNoWindow)
	}
	d.all(call{name: "Zoom", a: 1}, resize(1, 500, 500))
	if d.s.State().Windows[0].Zoom {
		t.Error("Resize has begun a zoom")
	}
}

func TestS12Arrange(t *testing.T) {
	for _, x := range []struct {
		how, size int
		want      string
	}{
		{api.ArrEvenRow, 0, "@1 sh 80x24{26x24%1 26x24%2 26x24%3} now 3 last 2"},
		{api.ArrEvenCol, 0, "@1 sh 80x24[80x8%1 80x7%2 80x7%3] now 3 last 2"},
		{api.ArrMainRow, 0, "@1 sh 80x24[80x12%1 80x11{40x11%2 39x11%3}] now 3 last 2"},
		{api.ArrMainCol, 60, "@1 sh 80x24{60x24%1 19x24[19x12%2 19x11%3]} now 3 last 2"},
		{api.ArrTiled, 0, "@1 sh 80x24[80x12{40x12%1 39x12%2} 80x11%3] now 3 last 2"},
	} {
		d := threePanes(t)
		d.must(arrange(1, x.how, x.size))
		d.windowIs(x.want)
		d.all(call{name: "Zoom", a: 3}, arrange(1, x.how, x.size))
		d.windowIs(x.want)
	}
	d := threePanes(t)
	for _, how := range []int{math.MinInt, -1, 0, 6, math.MaxInt} {
		d.fails(arrange(1, how, 0), api.ErrArg)
		d.fails(arrange(2, how, 0), api.ErrNoWindow)
	}
	d.must(resize(1, 3, 3))
	d.fails(arrange(1, api.ArrEvenRow, 0), api.ErrSmall)
	for _, id := range []int{0, -1, 2, math.MinInt, math.MaxInt} {
		d.fails(arrange(id, api.ArrTiled, 0), api.ErrNoWindow)
	}
	one := small(t).all(newSession("a"), arrange(1, api.ArrTiled, 0))
	one.windowIs("@1 sh 80x24%1 now 1 last 0")
}

func lay(window int, cells []api.Cell) call { return call{name: "Lay", a: window, cells: cells} }

// drawn is a layout that calls of layer 4 lead to.
func drawn(t *testing.T, w, h int, panes ...int) []api.Cell {
	t.Helper()
	l, err := layout.New(w, h, panes[0])
	for i := 1; i < len(panes) && err == api.OK; i++ {
		l, err = layout.Split(l, panes[i-1], api.CellRow+i%2, 0, true, panes[i])
	}
	if err != api.OK {
		t.Fatalf("no layout of %d x %d for %v: %d", w, h, panes, err)
	}
	return l
}

func TestS15Lay(t *testing.T) {
	for _, x := range []struct {
		panes []int
		want  string
	}{
		{[]int{7, 8, 9}, "@1 sh 80x24[80x11{39x11%1 40x11%2} 80x12%3] now 3 last 2"},
		{[]int{1, 2, 3}, "@1 sh 80x24[80x11{39x11%1 40x11%2} 80x12%3] now 3 last 2"},
		{[]int{3, 1, api.MaxNumber}, "@1 sh 80x24[80x11{39x11%1 40x11%2} 80x12%3] now 3 last 2"},
	} {
		d := threePanes(t)
		d.must(lay(1, drawn(t, 80, 24, x.panes...)))
		d.windowIs(x.want)
	}
	// The window's panes keep their own order, whatever it is.
	d := threePanes(t)
	d.all(call{name: "Swap", a: 1, b: 3}, call{name: "Zoom", a: 2}, lay(1, drawn(t, 80, 24, 7, 8, 9)))
	d.windowIs("@1 sh 80x24[80x11{39x11%3 40x11%2} 80x12%1] now 2 last 3")
	// What it has already; and one pane.
	d.all(call{name: "Zoom", a: 2}, lay(1, d.s.State().Windows[0].Cells))
	d.windowIs("@1 sh 80x24[80x11{39x11%3 40x11%2} 80x12%1] now 2 last 3")
	one := small(t).all(newSession("a"), lay(1, drawn(t, 80, 24, 44)))
	one.windowIs("@1 sh 80x24%1 now 1 last 0")
}

func TestS15LayErrors(t *testing.T) {
	d := threePanes(t)
	good := drawn(t, 80, 24, 7, 8, 9)
	spoilt := func(change func(l []api.Cell) []api.Cell) []api.Cell {
		l := append([]api.Cell(nil), good...)
		return change(l)
	}
	for i, l := range [][]api.Cell{
		nil,
		{},
		good[:len(good)-1],
		good[1:],
		drawn(t, 80, 24, 7),
		drawn(t, 80, 24, 7, 8),
		drawn(t, 80, 24, 7, 8, 9, 10),
		drawn(t, 40, 12, 7, 8),
		drawn(t, 79, 25, 7, 8, 9, 10),
		spoilt(func(l []api.Cell) []api.Cell { l[0].W = 81; return l }),
		spoilt(func(l []api.Cell) []api.Cell { l[0].X = 1; return l }),
		spoilt(func(l []api.Cell) []api.Cell { l[1].Depth = 2; return l }),
		spoilt(func(l []api.Cell) []api.Cell { l[1].Kind = 9; return l }),
		spoilt(func(l []api.Cell) []api.Cell { l[4].Pane = l[3].Pane; return l }),
		spoilt(func(l []api.Cell) []api.Cell { l[4].Pane = 0; return l }),
		spoilt(func(l []api.Cell) []api.Cell { l[0].Pane = 5; return l }),
		make([]api.Cell, 5),
		make([]api.Cell, 70),
	} {
		if a := lay(1, l).on(d.s); a.err != api.ErrLayout {
			t.Errorf("the list %d: error %d; want ErrLayout: %v", i, a.err, l)
		}
		d.fails(lay(1, l), api.ErrLayout)
		d.fails(lay(2, l), api.ErrNoWindow)
		d.fails(lay(0, l), api.ErrNoWindow)
	}
	for _, x := range []struct{ w, h int }{{79, 24}, {81, 24}, {80, 23}, {80, 25}, {24, 80}, {1000, 1000}} {
		d.fails(lay(1, drawn(t, x.w, x.h, 7, 8, 9)), api.ErrSide)
		d.fails(lay(1, drawn(t, x.w, x.h, 7, 8)), api.ErrLayout)
		d.fails(lay(-1, drawn(t, x.w, x.h, 7, 8, 9)), api.ErrNoWindow)
	}
	d.must(lay(1, good))
}
