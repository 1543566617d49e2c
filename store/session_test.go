package store

import (
	"fmt"
	"math"
	"strings"
	"testing"

	"mullion/api"
)

// names that are none, each for another reason.
func noNames() []string {
	return []string{" ", " x", "x ", "a:b", "a.b", "$1", "@1", "%1", "=x", "+x", "-x", "!x", "^x", "{x", "a\n", "\x1f", "\x7f", "é", strings.Repeat("n", 33)}
}

func goodNames() []string {
	return []string{"a", "0", "two words", "x$@%=+-!^{", "~", "}", strings.Repeat("n", 32), "sh"}
}

// opened is a session of that name and of a window of that name and size.
func opened(name, window string, w, h int) call {
	return call{name: "NewSession", text: name, other: window, a: w, b: h}
}

// filled has as many of each kind as are told: one session has all windows that the others leave, which have one each;
// each window has one pane, the first one all that are left; the first session has the links that are left.
func filled(t *testing.T, sessions, windows, panes, links int) *desk {
	t.Helper()
	d := newDesk(t, api.Config{W: 300, H: 100, Tail: 10})
	for range sessions {
		d.must(newSession(""))
	}
	for range windows - sessions {
		d.must(newWindow(1, -1))
	}
	for range panes - windows {
		d.must(splitRow(1))
		d.must(call{name: "Arrange", a: 1, b: api.ArrTiled})
	}
	for range links - windows {
		d.must(link(1, -1, 1))
	}
	return d
}

func TestS5NewSession(t *testing.T) {
	d := small(t)
	for i, x := range []struct {
		do         call
		name, size string
	}{
		{opened("work", "", 0, 0), "work", "@1 sh 80x24"},
		{opened("", "", 0, 0), "2", "@2 sh 80x24"},
		{opened("a", "vi", 5, 0), "a", "@3 vi 5x24"},
		{opened("b", "vi", 0, 5), "b", "@4 vi 80x5"},
		{opened("two words", "work", 1, 1), "two words", "@5 work 1x1"},
		{opened("", "sh", 1000, 1000), "6", "@6 sh 1000x1000"},
	} {
		n := i + 1
		if a := d.must(x.do); a.place != (api.Place{Session: n, Index: 0, Window: n, Pane: n}) {
			t.Errorf("%v = %v; want %d, 0, %d, %d", x.do, a.place, n, n, n)
		}
		lines := strings.Split(show(d.s.State()), "\n")
		if want := fmt.Sprintf("$%d %s 0@%d now 0 last -1", n, x.name, n); lines[i] != want {
			t.Errorf("the session is %q; want %q", lines[i], want)
		}
		if want := fmt.Sprintf("%s%%%d now %d last 0", x.size, n, n); lines[len(lines)-1] != want {
			t.Errorf("the window is %q; want %q", lines[len(lines)-1], want)
		}
	}
}

func TestS5Names(t *testing.T) {
	d := small(t).all(newSession("work"))
	for _, name := range noNames() {
		d.fails(opened(name, "", 0, 0), api.ErrName)
		d.fails(opened("x", name, 0, 0), api.ErrName)
		d.fails(opened("", name, 0, 0), api.ErrName)
		d.fails(opened(name, name, 0, 0), api.ErrName)
	}
	d.fails(newSession("work"), api.ErrTaken)
	for _, name := range goodNames() {
		c := small(t)
		c.must(opened(name, "", 0, 0))
		c.must(opened("other", name, 0, 0))
		if x := c.s.State(); x.Sessions[0].Name != name || x.Windows[0].Name != "sh" || x.Windows[1].Name != name {
			t.Errorf("the name %q has become %q and %q", name, x.Sessions[0].Name, x.Windows[1].Name)
		}
	}
}

// The digits of its id are a session's name like any other: another session may have it.
func TestS5TheIdAsAName(t *testing.T) {
	d := small(t).all(newSession("2"))
	d.fails(newSession(""), api.ErrTaken)
	d.fails(newSession("2"), api.ErrTaken)
	d.all(newSession("x"), newSession(""))
	d.fails(newSession("3"), api.ErrTaken)
	d.all(call{name: "RenameSession", a: 3, text: "4"})
	d.fails(newSession(""), api.ErrTaken)
	d.all(call{name: "CloseSession", a: 3}, newSession(""))
	if x := d.s.State().Sessions; x[2].Id != 4 || x[2].Name != "4" {
		t.Errorf("the session is %v", x[2])
	}
	for range 20 {
		d.must(call{name: "CloseSession", a: d.must(newSession("y")).place.Session})
	}
	d.all(newSession(""))
	if x := d.s.State().Sessions; x[len(x)-1].Name != "25" {
		t.Errorf("the session is %v", x[len(x)-1])
	}
}

func TestS5Sides(t *testing.T) {
	for _, n := range []int{math.MinInt, -1000, -1, 1001, 10000, math.MaxInt} {
		d := small(t)
		d.fails(opened("", "", n, 0), api.ErrSide)
		d.fails(opened("", "", 0, n), api.ErrSide)
		d.fails(opened("", "", 1000, n), api.ErrSide)
		d.fails(opened("", "", n, 1), api.ErrSide)
		d.fails(opened("", "", n, n), api.ErrSide)
	}
}

func TestS5FullTables(t *testing.T) {
	for _, x := range []struct{ sessions, windows, panes, links int }{
		{8, 8, 8, 8}, {1, 16, 16, 16}, {1, 1, 32, 1}, {1, 1, 1, 32}, {8, 16, 32, 32},
	} {
		filled(t, x.sessions, x.windows, x.panes, x.links).fails(newSession("new"), api.ErrFull)
	}
	for _, x := range []struct{ sessions, windows, panes, links int }{{7, 7, 7, 7}, {1, 15, 15, 15}, {1, 1, 31, 1}, {1, 1, 1, 31}, {7, 15, 31, 31}} {
		d := filled(t, x.sessions, x.windows, x.panes, x.links)
		id := d.must(newSession("new")).place.Session
		d.fails(newSession("newer"), api.ErrFull)
		d.all(call{name: "CloseSession", a: id}, newSession("newer"))
	}
}

// The error that is named first: ErrName, ErrSide, ErrFull, ErrTaken.
func TestS5FirstError(t *testing.T) {
	d := filled(t, 8, 16, 32, 32)
	d.all(call{name: "RenameSession", a: 1, text: "work"})
	d.fails(opened("a:b", "", -1, 0), api.ErrName)
	d.fails(opened("work", "a:b", -1, 0), api.ErrName)
	d.fails(opened("work", "", -1, 0), api.ErrSide)
	d.fails(opened("work", "", 0, 1001), api.ErrSide)
	d.fails(opened("work", "", 0, 0), api.ErrFull)
	d.all(call{name: "CloseSession", a: 8}, call{name: "ClosePane", a: 17})
	d.fails(opened("work", "", 0, 0), api.ErrTaken)
	d.fails(opened("work", "", -1, 0), api.ErrSide)
	d.must(opened("free", "", 0, 0))
}

func TestS6CloseSession(t *testing.T) {
	d := small(t).all(newSession("a"), newSession("b"), chosen(newWindow(1, 3)), splitRow(1), splitCol(3), link(1, 5, 1), link(1, 7, 2), link(2, 4, 3), chosen(link(2, 9, 3)))
	d.is("$1 a 0@1 3@3 5@1 7@2 now 3 last 0", "$2 b 0@2 4@3 9@3 now 9 last 0",
		"@1 sh 80x24{40x24%1 39x24%4} now 1 last 0", "@2 sh 80x24%2 now 2 last 0", "@3 sh 80x24[80x12%3 80x11%5] now 3 last 0")
	c := d.clone()
	d.must(call{name: "CloseSession", a: 1})
	d.is("$2 b 0@2 4@3 9@3 now 9 last 0", "@2 sh 80x24%2 now 2 last 0", "@3 sh 80x24[80x12%3 80x11%5] now 3 last 0")
	for pane, lives := range []bool{false, false, true, true, false, true} {
		if _, _, ok := d.s.Extent(pane); ok != lives {
			t.Errorf("the pane %d lives: %v", pane, ok)
		}
	}
	d.must(call{name: "CloseSession", a: 2})
	d.is("")
	d.fails(call{name: "CloseSession", a: 2}, api.ErrNoSession)

	c.must(call{name: "CloseSession", a: 2})
	c.is("$1 a 0@1 3@3 5@1 7@2 now 3 last 0", "@1 sh 80x24{40x24%1 39x24%4} now 1 last 0", "@2 sh 80x24%2 now 2 last 0", "@3 sh 80x24[80x12%3 80x11%5] now 3 last 0")
	for _, id := range []int{2, 0, -1, 3, math.MinInt, math.MaxInt} {
		c.fails(call{name: "CloseSession", a: id}, api.ErrNoSession)
	}
}

func TestS6RenameSession(t *testing.T) {
	rename := func(id int, name string) call { return call{name: "RenameSession", a: id, text: name} }
	d := small(t).all(newSession("a"), newSession("b"))
	for _, name := range goodNames() {
		d.must(rename(1, name))
		d.is("$1 "+name+" 0@1 now 0 last -1", "$2 b 0@2 now 0 last -1", "@1 sh 80x24%1 now 1 last 0", "@2 sh 80x24%2 now 2 last 0")
		d.must(rename(1, name))
		d.fails(rename(2, name), api.ErrTaken)
	}
	for _, name := range append(noNames(), "") {
		d.fails(rename(1, name), api.ErrName)
		d.fails(rename(3, name), api.ErrNoSession)
	}
	d.fails(rename(1, "b"), api.ErrTaken)
	d.fails(rename(0, "b"), api.ErrNoSession)
	d.fails(rename(-1, "c"), api.ErrNoSession)
	// A name that is let go is free, and so is the name of a session that is gone.
	d.all(rename(1, "c"), rename(2, "sh"), rename(1, "b"), call{name: "CloseSession", a: 1}, rename(2, "b"))
	d.is("$2 b 0@2 now 0 last -1", "@2 sh 80x24%2 now 2 last 0")
}
