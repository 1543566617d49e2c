package store

import (
	"math"
	"testing"

	"mullion/api"
)

// breakOut is Break of a pane to an index of a session.
func breakOut(pane, session, index int) call {
	return call{name: "Break", a: pane, b: session, c: index}
}

func join(pane, beside, kind int) call { return call{name: "Join", a: pane, b: beside, c: kind} }

func TestS16Break(t *testing.T) {
	for _, x := range []struct {
		do    call
		place api.Place
		want  []string
	}{
		{breakOut(1, 1, -1), api.Place{Session: 1, Index: 1, Window: 2, Pane: 1},
			[]string{"$1 a 0@1 1@2 now 0 last -1", "@1 sh 80x24[80x12%2 80x11%3] now 3 last 2", "@2 sh 80x24%1 now 1 last 0"}},
		{chosen(breakOut(2, 1, 5)), api.Place{Session: 1, Index: 5, Window: 2, Pane: 2},
			[]string{"$1 a 0@1 5@2 now 5 last 0", "@1 sh 80x24{40x24%1 39x24%3} now 3 last 0", "@2 sh 80x24%2 now 2 last 0"}},
		{named(breakOut(3, 1, 9999), "own"), api.Place{Session: 1, Index: 9999, Window: 2, Pane: 3},
			[]string{"$1 a 0@1 9999@2 now 0 last -1", "@1 sh 80x24{40x24%1 39x24%2} now 2 last 0", "@2 own 80x24%3 now 3 last 0"}},
	} {
		d := threePanes(t)
		if a := d.must(x.do); a.place != x.place {
			t.Errorf("%v = %v; want %v", x.do, a.place, x.place)
		}
		d.is(x.want...)
	}
}

// The new window has the size that the pane's window has, not that of the pane nor that of new windows; and it may be
// linked in a session in which the old one is not.
func TestS16BreakSizeAndSession(t *testing.T) {
	d := small(t).all(opened("a", "", 31, 17), newSession("b"), splitRow(1), splitCol(1), write(4, "hello"), typeInto(4, "keys"))
	d.all(chosen(breakOut(4, 2, -1)))
	d.is("$1 a 0@1 now 0 last -1", "$2 b 0@2 1@3 now 1 last 0",
		"@1 sh 31x17{15x17%1 15x17%3} now 1 last 0", "@2 sh 80x24%2 now 2 last 0", "@3 sh 31x17%4 now 4 last 0")
	if text, _, _ := d.s.Read(4, 0, 9); text != "hello" {
		t.Errorf("the pane has %q", text)
	}
	// Without a last one: the active pane that goes leaves the one ahead of it, or behind it, active.
	d.must(breakOut(1, 1, -1))
	d.is("$1 a 0@1 1@4 now 0 last -1", "$2 b 0@2 1@3 now 1 last 0",
		"@1 sh 31x17%3 now 3 last 0", "@2 sh 80x24%2 now 2 last 0", "@3 sh 31x17%4 now 4 last 0", "@4 sh 31x17%1 now 1 last 0")
	d.fails(breakOut(3, 1, -1), api.ErrOnly)
}

// The errors in their order: ErrNoPane, ErrNoSession, ErrArg, ErrName, ErrTaken, ErrOnly, ErrFull.
func TestS16BreakErrors(t *testing.T) {
	d := filled(t, 2, 16, 20, 32)
	alone := d.b.session(2).Links[0].Window
	for _, id := range noIds() {
		if id == 9 { // a pane that there is
			continue
		}
		d.fails(named(breakOut(id, id, -2), "a:b"), api.ErrNoPane)
		d.fails(named(breakOut(1, id, -2), "a:b"), api.ErrNoSession)
		d.fails(breakOut(id, 1, 0), api.ErrNoPane)
	}
	for _, index := range []int{-2, 10000, math.MinInt, math.MaxInt} {
		d.fails(named(breakOut(1, 1, index), "a:b"), api.ErrArg)
	}
	for _, name := range noNames() {
		d.fails(named(chosen(breakOut(1, 1, 0)), name), api.ErrName)
		d.fails(named(breakOut(alone, 1, 0), name), api.ErrName)
	}
	d.fails(breakOut(1, 1, 0), api.ErrTaken)
	d.fails(breakOut(alone, 1, 0), api.ErrTaken)
	d.fails(breakOut(alone, 1, -1), api.ErrOnly)
	d.fails(breakOut(1, 1, -1), api.ErrFull)
	d.fails(chosen(breakOut(1, 1, 9999)), api.ErrFull)
	// There is room for a link, and none for a window; the other way round; for both.
	windows := filled(t, 1, 16, 20, 16)
	windows.fails(breakOut(1, 1, -1), api.ErrFull)
	windows.all(closeWindow(7), breakOut(1, 1, -1))
	links := filled(t, 1, 2, 20, 32)
	links.fails(breakOut(1, 1, -1), api.ErrFull)
	links.all(unlink(1, 5), breakOut(1, 1, -1))
	// A full table of panes is no hindrance: none is made.
	panes := filled(t, 1, 1, 32, 1)
	if a := panes.must(breakOut(32, 1, -1)); a.place.Pane != 32 || a.place.Window != 2 {
		t.Errorf("%v", a.place)
	}
}

func TestS17JoinWithinOneWindow(t *testing.T) {
	for _, x := range []struct {
		do   call
		want string
	}{
		{join(3, 1, api.CellRow), "80x24{20x24%1 19x24%3 39x24%2} now 2 last 0"},
		{chosen(join(3, 1, api.CellRow)), "80x24{20x24%1 19x24%3 39x24%2} now 3 last 2"},
		{chosen(join(3, 2, api.CellCol)), "80x24{40x24%1 39x24[39x12%2 39x11%3]} now 3 last 2"},
		{join(2, 3, api.CellCol), "80x24{40x24%1 39x24[39x12%3 39x11%2]} now 3 last 0"},
		{chosen(join(2, 3, api.CellRow)), "80x24{40x24%1 19x24%3 19x24%2} now 2 last 3"},
		{join(1, 2, api.CellCol), "80x24[80x6%2 80x5%1 80x11%3] now 3 last 2"},
		{chosen(join(1, 2, api.CellCol)), "80x24[80x6%2 80x5%1 80x11%3] now 1 last 3"},
		{call{name: "Join", a: 1, b: 3, c: api.CellRow, d: 10, yes: true}, "80x24[80x12%2 80x11{10x11%1 69x11%3}] now 3 last 2"},
	} {
		d := threePanes(t)
		d.must(x.do)
		d.windowIs("@1 sh " + x.want)
	}
	// Of two panes: the one stands alone in between.
	d := small(t).all(newSession("a"), splitRow(1), join(1, 2, api.CellCol))
	d.windowIs("@1 sh 80x24[80x12%2 80x11%1] now 2 last 0")
	d.all(zoom(1), chosen(join(1, 2, api.CellRow)))
	d.windowIs("@1 sh 80x24{40x24%2 39x24%1} now 1 last 2")
}

// A pane that is too small to be cut may be great enough when the other one has left.
func TestS17JoinIntoTheRoomThatItLeaves(t *testing.T) {
	d := small(t).all(opened("a", "", 5, 1), splitRow(1))
	d.windowIs("@1 sh 5x1{2x1%1 2x1%2} now 1 last 0")
	d.fails(splitRow(1), api.ErrSmall)
	d.must(join(2, 1, api.CellRow))
	d.must(call{name: "Join", a: 2, b: 1, c: api.CellRow, d: 3, yes: true})
	d.windowIs("@1 sh 5x1{3x1%2 1x1%1} now 1 last 0")
	d.fails(join(2, 1, api.CellCol), api.ErrSmall)
}

func TestS17JoinBetweenTwo(t *testing.T) {
	base := func() *desk { return threePanes(t).all(newWindow(1, -1), splitRow(4), zoom(5)) }
	base().is("$1 a 0@1 1@2 now 0 last -1", "@1 sh 80x24{40x24%1 39x24[39x12%2 39x11%3]} now 3 last 2 zoom", "@2 sh 80x24{40x24%4 39x24%5} now 5 last 4 zoom")
	for _, x := range []struct {
		do       call
		one, two string
	}{
		{join(3, 4, api.CellCol), "80x24{40x24%1 39x24%2} now 2 last 0", "80x24{40x24[40x12%4 40x11%3] 39x24%5} now 5 last 4"},
		{chosen(join(2, 5, api.CellRow)), "80x24{40x24%1 39x24%3} now 3 last 0", "80x24{40x24%4 19x24%5 19x24%2} now 2 last 5"},
		{join(1, 5, api.CellCol), "80x24[80x12%2 80x11%3] now 3 last 2", "80x24{40x24%4 39x24[39x12%5 39x11%1]} now 5 last 4"},
		{call{name: "Join", a: 5, b: 1, c: api.CellCol, d: 3, yes: true, also: true}, "80x24{40x24[40x3%5 40x20%1] 39x24[39x12%2 39x11%3]} now 5 last 3", "80x24%4 now 4 last 0"},
		{join(4, 3, api.CellRow), "80x24{40x24%1 39x24[39x12%2 39x11{19x11%3 19x11%4}]} now 3 last 2", "80x24%5 now 5 last 0"},
	} {
		d := base()
		d.must(x.do)
		d.is("$1 a 0@1 1@2 now 0 last -1", "@1 sh "+x.one, "@2 sh "+x.two)
	}
}

// A window's only pane: the window is closed, and the sessions that have no link any more; the pane lives on.
func TestS17JoinOfTheOnlyPane(t *testing.T) {
	d := small(t).all(newSession("a"), newSession("b"), newSession("c"), link(1, 4, 3), link(1, 2, 3), choose(1, 4), link(2, 6, 3), write(3, "hello"), typeInto(3, "keys"))
	d.sessionsAre("$1 a 0@1 2@3 4@3 now 4 last 0\n$2 b 0@2 6@3 now 0 last -1\n$3 c 0@3 now 0 last -1")
	c := d.clone()
	d.must(chosen(join(3, 2, api.CellRow)))
	d.is("$1 a 0@1 now 0 last -1", "$2 b 0@2 now 0 last -1", "@1 sh 80x24%1 now 1 last 0", "@2 sh 80x24{40x24%2 39x24%3} now 3 last 2")
	text, _, err := d.s.Read(3, 0, 9)
	if keys, ok := d.s.Typed(3); text != "hello" || err != api.OK || keys != "keys" || !ok {
		t.Errorf("the pane has %q, %d, and %q typed", text, err, keys)
	}
	if a := d.must(write(3, "!")); a.n != 5 {
		t.Errorf("the pane goes on at %d", a.n)
	}
	// Neither id is used again.
	if a := d.must(newSession("")); a.place != (api.Place{Session: 4, Index: 0, Window: 4, Pane: 4}) {
		t.Errorf("the next session: %v", a.place)
	}
	// A pane may join a window whose id is greater than that of its own, and one that stands ahead of it.
	c.must(join(1, 3, api.CellCol))
	c.is("$1 a 2@3 4@3 now 4 last -1", "$2 b 0@2 6@3 now 0 last -1", "$3 c 0@3 now 0 last -1", "@2 sh 80x24%2 now 2 last 0", "@3 sh 80x24[80x12%3 80x11%1] now 3 last 0")
	c.must(join(2, 1, api.CellRow))
	c.is("$1 a 2@3 4@3 now 4 last -1", "$2 b 6@3 now 6 last -1", "$3 c 0@3 now 0 last -1", "@3 sh 80x24[80x12%3 80x11{40x11%1 39x11%2}] now 3 last 0")
}

// Of one window in all: its only other pane can't be joined away, and with the last window nothing is left.
func TestS17JoinErrors(t *testing.T) {
	d := threePanes(t).all(newSession("b"))
	for _, pane := range noIds() {
		d.fails(join(pane, 1, 9), api.ErrNoPane)
		d.fails(join(1, pane, 9), api.ErrNoPane)
		d.fails(join(pane, pane, 9), api.ErrNoPane)
	}
	for _, pane := range []int{1, 2, 3, 4} {
		d.fails(join(pane, pane, api.CellRow), api.ErrArg)
		d.fails(chosen(join(pane, pane, 9)), api.ErrArg)
	}
	for _, kind := range []int{math.MinInt, -1, 0, api.CellPane, 4, math.MaxInt} {
		d.fails(join(1, 2, kind), api.ErrArg)
		d.fails(chosen(join(4, 2, kind)), api.ErrArg)
		d.fails(chosen(join(2, 4, kind)), api.ErrArg)
	}
	d.must(resize(1, 5, 5))
	d.fails(join(4, 2, api.CellRow), api.ErrSmall)
	d.fails(chosen(join(4, 3, api.CellCol)), api.ErrSmall)
	d.must(resize(2, 2, 2))
	d.fails(join(1, 4, api.CellCol), api.ErrSmall)
	// A full table of panes is no hindrance.
	full := filled(t, 1, 2, 32, 2)
	full.all(join(2, 1, api.CellRow))
	if w := full.s.State().Windows; len(w) != 1 {
		t.Errorf("%d windows are left", len(w))
	}
}
