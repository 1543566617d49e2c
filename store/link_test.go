package store

import (
	"math"
	"testing"

	"mullion/api"
)

func unlink(session, index int) call { return call{name: "Unlink", a: session, b: index} }

func move(session, index, to, toIndex int) call {
	return call{name: "Move", a: session, b: index, c: to, d: toIndex}
}

func exchange(session, index, other, otherIndex int) call {
	return call{name: "Exchange", a: session, b: index, c: other, d: otherIndex}
}

// sessionsAre holds the sessions alone against lines.
func (d *desk) sessionsAre(want string) {
	d.t.Helper()
	if got := show(api.State{Sessions: d.s.State().Sessions}); got != want {
		d.t.Fatalf("the sessions are\n%s\nwant\n%s", got, want)
	}
}

func noIds() []int { return []int{0, -1, 9, 100, math.MinInt, math.MaxInt, api.MaxNumber} }

func TestS8Link(t *testing.T) {
	d := small(t).all(newSession("a"), newSession("b"))
	for _, x := range []struct {
		do    call
		index int
		want  string
	}{
		{link(1, -1, 2), 1, "$1 a 0@1 1@2 now 0 last -1\n$2 b 0@2 now 0 last -1"},
		{link(1, 3, 1), 3, "$1 a 0@1 1@2 3@1 now 0 last -1\n$2 b 0@2 now 0 last -1"},
		{chosen(link(1, -1, 1)), 2, "$1 a 0@1 1@2 2@1 3@1 now 2 last 0\n$2 b 0@2 now 0 last -1"},
		{chosen(link(2, 9999, 1)), 9999, "$1 a 0@1 1@2 2@1 3@1 now 2 last 0\n$2 b 0@2 9999@1 now 9999 last 0"},
		{chosen(link(1, -1, 2)), 4, "$1 a 0@1 1@2 2@1 3@1 4@2 now 4 last 2\n$2 b 0@2 9999@1 now 9999 last 0"},
	} {
		if a := d.must(x.do); a.n != x.index {
			t.Errorf("%v = %d; want %d", x.do, a.n, x.index)
		}
		d.sessionsAre(x.want)
	}
	// All three of its numbers may fail: the first one named is the answer.
	for _, id := range noIds() {
		d.fails(link(id, -2, id), api.ErrNoSession)
		d.fails(link(1, -2, id), api.ErrNoWindow)
		d.fails(link(1, 0, id), api.ErrNoWindow)
	}
	for _, index := range []int{-2, 10000, math.MinInt, math.MaxInt} {
		d.fails(link(1, index, 1), api.ErrArg)
	}
	d.fails(link(1, 0, 2), api.ErrTaken)
	d.fails(chosen(link(1, 0, 1)), api.ErrTaken)
	d.fails(chosen(link(2, 9999, 2)), api.ErrTaken)
}

func TestS8LinkWhenFull(t *testing.T) {
	d := filled(t, 2, 3, 3, 32)
	d.fails(link(1, -1, 1), api.ErrFull)
	d.fails(link(2, 5, 1), api.ErrFull)
	d.fails(link(1, 0, 1), api.ErrTaken)
	d.fails(link(1, 10000, 1), api.ErrArg)
	d.fails(link(1, 10000, 4), api.ErrNoWindow)
	d.all(unlink(1, 0), link(2, 5, 1))
	d.fails(link(2, 6, 1), api.ErrFull)
	// A move needs no room.
	d.all(move(1, 1, 2, -1), move(1, 2, 1, 77))
	// 32 links may stand in one session: the free index is behind them all.
	one := filled(t, 1, 1, 1, 31)
	if a := one.must(link(1, -1, 1)); a.n != 31 {
		t.Errorf("the free index is %d", a.n)
	}
}

// What becomes current and last when a link goes, by each of the ways.
func TestS8UnlinkCurrentAndLast(t *testing.T) {
	base := func() *desk { return small(t).all(newSession("a"), newWindow(1, 3), newWindow(1, 5), newWindow(1, 9)) }
	for _, x := range []struct {
		chosen []int
		index  int
		want   string
	}{
		{[]int{3}, 5, "$1 a 0@1 3@2 9@4 now 3 last 0"},     // neither
		{[]int{3}, 0, "$1 a 3@2 5@3 9@4 now 3 last -1"},    // the last one
		{[]int{3}, 3, "$1 a 0@1 5@3 9@4 now 0 last -1"},    // the current one: the last
		{[]int{9, 3}, 3, "$1 a 0@1 5@3 9@4 now 9 last -1"}, // .. that stands behind it too
		{nil, 0, "$1 a 3@2 5@3 9@4 now 3 last -1"},         // no last, none below: the least
		{nil, 9, "$1 a 0@1 3@2 5@3 now 0 last -1"},         // neither, and no last
	} {
		d := base()
		for _, index := range x.chosen {
			d.must(choose(1, index))
		}
		d.must(unlink(1, x.index))
		d.sessionsAre(x.want)
		d.fails(unlink(1, x.index), api.ErrNoIndex)
	}
	// No last any more: the greatest index below, from each place.
	for _, x := range []struct {
		index int
		want  string
	}{
		{3, "$1 a 1@1 5@3 9@4 now 1 last -1"},
		{5, "$1 a 1@1 3@2 9@4 now 3 last -1"},
		{9, "$1 a 1@1 3@2 5@3 now 5 last -1"},
	} {
		d := base().all(move(1, 0, 1, 1), newWindow(1, 0), choose(1, 0), choose(1, x.index), unlink(1, 0))
		d.must(unlink(1, x.index))
		d.sessionsAre(x.want)
	}
}

func TestS8UnlinkCloses(t *testing.T) {
	d := small(t).all(newSession("a"), newSession("b"), link(2, 5, 1), newWindow(2, 7), splitRow(3))
	d.must(unlink(1, 0))
	d.is("$2 b 0@2 5@1 7@3 now 0 last -1", "@1 sh 80x24%1 now 1 last 0", "@2 sh 80x24%2 now 2 last 0", "@3 sh 80x24{40x24%3 39x24%4} now 3 last 0")
	d.must(unlink(2, 7))
	d.is("$2 b 0@2 5@1 now 0 last -1", "@1 sh 80x24%1 now 1 last 0", "@2 sh 80x24%2 now 2 last 0")
	for _, pane := range []int{3, 4} {
		d.fails(write(pane, "x"), api.ErrNoPane)
	}
	d.must(unlink(2, 0))
	d.is("$2 b 5@1 now 5 last -1", "@1 sh 80x24%1 now 1 last 0")
	d.fails(unlink(2, 0), api.ErrNoIndex)
	d.must(unlink(2, 5))
	d.is("")
	d.fails(unlink(2, 5), api.ErrNoSession)
}

func TestS8UnlinkErrors(t *testing.T) {
	d := small(t).all(newSession("a"), newWindow(1, 5))
	for _, index := range []int{-1, 1, 4, 6, 9999, 10000, math.MinInt, math.MaxInt} {
		d.fails(unlink(1, index), api.ErrNoIndex)
		d.fails(choose(1, index), api.ErrNoIndex)
	}
	for _, id := range noIds() {
		for _, index := range []int{0, -1, 1} {
			d.fails(unlink(id, index), api.ErrNoSession)
			d.fails(choose(id, index), api.ErrNoSession)
		}
	}
}

// twoSessions: each has three windows; in each the current index has a last one.
func twoSessions(t *testing.T) *desk {
	t.Helper()
	d := small(t).all(newSession("a"), newSession("b"), newWindow(1, 1), newWindow(1, 2), newWindow(2, 4), newWindow(2, 5), choose(1, 1), choose(2, 5))
	d.sessionsAre("$1 a 0@1 1@3 2@4 now 1 last 0\n$2 b 0@2 4@5 5@6 now 5 last 0")
	return d
}

func TestS9MoveWithinOneSession(t *testing.T) {
	for _, x := range []struct {
		index, to, answer int
		want              string
	}{
		{1, 7, 7, "$1 a 0@1 2@4 7@3 now 7 last 0"},  // the current one
		{0, 7, 7, "$1 a 1@3 2@4 7@1 now 1 last 7"},  // the last one
		{2, 7, 7, "$1 a 0@1 1@3 7@4 now 1 last 0"},  // neither
		{1, -1, 3, "$1 a 0@1 2@4 3@3 now 3 last 0"}, // to the index that was free ahead of it
		{0, -1, 3, "$1 a 1@3 2@4 3@1 now 1 last 3"}, // .. not to 0, its own
		{2, -1, 3, "$1 a 0@1 1@3 3@4 now 1 last 0"}, // ..
		{1, 1, 1, "$1 a 0@1 1@3 2@4 now 1 last 0"},  // onto itself
		{0, 0, 0, "$1 a 0@1 1@3 2@4 now 1 last 0"},  // ..
		{2, 2, 2, "$1 a 0@1 1@3 2@4 now 1 last 0"},  // ..
		{0, 9999, 9999, "$1 a 1@3 2@4 9999@1 now 1 last 9999"},
	} {
		d := twoSessions(t)
		if a := d.must(move(1, x.index, 1, x.to)); a.n != x.answer {
			t.Errorf("Move(1, %d, 1, %d) = %d; want %d", x.index, x.to, a.n, x.answer)
		}
		d.sessionsAre(x.want + "\n$2 b 0@2 4@5 5@6 now 5 last 0")
		if n := len(d.s.State().Windows); n != 6 {
			t.Errorf("Move(1, %d, 1, %d) leaves %d windows", x.index, x.to, n)
		}
	}
	// To a lower index; and the only link of a session.
	d := small(t).all(newSession("a"), move(1, 0, 1, 8), move(1, 8, 1, 3), move(1, 3, 1, -1))
	d.is("$1 a 0@1 now 0 last -1", "@1 sh 80x24%1 now 1 last 0")
}

func TestS9MoveBetweenTwo(t *testing.T) {
	for _, x := range []struct {
		index, to, answer int
		want              string
	}{
		{1, 7, 7, "$1 a 0@1 2@4 now 0 last -1\n$2 b 0@2 4@5 5@6 7@3 now 5 last 0"},  // the current one goes
		{0, 7, 7, "$1 a 1@3 2@4 now 1 last -1\n$2 b 0@2 4@5 5@6 7@1 now 5 last 0"},  // the last one
		{2, 7, 7, "$1 a 0@1 1@3 now 1 last 0\n$2 b 0@2 4@5 5@6 7@4 now 5 last 0"},   // neither
		{1, -1, 1, "$1 a 0@1 2@4 now 0 last -1\n$2 b 0@2 1@3 4@5 5@6 now 5 last 0"}, // a free index of the other
		{1, 1, 1, "$1 a 0@1 2@4 now 0 last -1\n$2 b 0@2 1@3 4@5 5@6 now 5 last 0"},  // the same index, of the other
		{2, 2, 2, "$1 a 0@1 1@3 now 1 last 0\n$2 b 0@2 2@4 4@5 5@6 now 5 last 0"},
	} {
		d := twoSessions(t)
		if a := d.must(move(1, x.index, 2, x.to)); a.n != x.answer {
			t.Errorf("Move(1, %d, 2, %d) = %d; want %d", x.index, x.to, a.n, x.answer)
		}
		d.sessionsAre(x.want)
		if n := len(d.s.State().Windows); n != 6 {
			t.Errorf("Move(1, %d, 2, %d) leaves %d windows", x.index, x.to, n)
		}
	}
	// The only link: the session is closed, the window not, nor a byte of its pane gone.
	d := small(t).all(newSession("a"), newSession("b"), write(1, "hello"), move(1, 0, 2, -1))
	d.is("$2 b 0@2 1@1 now 0 last -1", "@1 sh 80x24%1 now 1 last 0", "@2 sh 80x24%2 now 2 last 0")
	if text, _, err := d.s.Read(1, 0, 9); text != "hello" || err != api.OK {
		t.Errorf("the moved window's pane has %q, %d", text, err)
	}
	d.fails(newWindow(1, -1), api.ErrNoSession)
	// Without a last one: the greatest index below; none below: the least.
	d = small(t).all(newSession("a"), newSession("b"), newWindow(1, 3), newWindow(1, 5), move(1, 0, 2, -1))
	d.sessionsAre("$1 a 3@3 5@4 now 3 last -1\n$2 b 0@2 1@1 now 0 last -1")
	d.all(choose(1, 5), newWindow(1, 4), move(1, 3, 2, -1), move(1, 5, 2, -1))
	d.sessionsAre("$1 a 4@5 now 4 last -1\n$2 b 0@2 1@1 2@3 3@4 now 0 last -1")
	// A window that is linked in both has two links there then.
	d = small(t).all(newSession("a"), newSession("b"), link(2, 1, 1), newWindow(1, 1), move(1, 0, 2, -1))
	d.sessionsAre("$1 a 1@3 now 1 last -1\n$2 b 0@2 1@1 2@1 now 0 last -1")
}

func TestS9MoveErrors(t *testing.T) {
	d := twoSessions(t)
	for _, id := range noIds() {
		d.fails(move(id, 0, 1, -2), api.ErrNoSession)
		d.fails(move(1, 0, id, 7), api.ErrNoSession)
		d.fails(move(1, 77, id, -2), api.ErrNoSession)
		d.fails(move(id, 0, id, 0), api.ErrNoSession)
	}
	for _, index := range []int{-1, 3, 9999, 10000, math.MinInt, math.MaxInt} {
		d.fails(move(1, index, 1, -2), api.ErrNoIndex)
		d.fails(move(1, index, 1, index), api.ErrNoIndex)
		d.fails(move(1, index, 2, 0), api.ErrNoIndex)
	}
	for _, index := range []int{-2, 10000, math.MinInt, math.MaxInt} {
		d.fails(move(1, 0, 1, index), api.ErrArg)
		d.fails(move(1, 0, 2, index), api.ErrArg)
	}
	for _, index := range []int{1, 2} {
		d.fails(move(1, 0, 1, index), api.ErrTaken)
	}
	for _, index := range []int{0, 4, 5} {
		d.fails(move(1, 0, 2, index), api.ErrTaken)
	}
	// The same index of another session is not this very link.
	d.fails(move(1, 0, 2, 0), api.ErrTaken)
}

func TestS10Exchange(t *testing.T) {
	for _, x := range []struct {
		do   call
		want string
	}{
		{exchange(1, 0, 1, 1), "$1 a 0@3 1@1 2@4 now 1 last 0\n$2 b 0@2 4@5 5@6 now 5 last 0"},
		{exchange(1, 2, 1, 0), "$1 a 0@4 1@3 2@1 now 1 last 0\n$2 b 0@2 4@5 5@6 now 5 last 0"},
		{exchange(1, 1, 2, 5), "$1 a 0@1 1@6 2@4 now 1 last 0\n$2 b 0@2 4@5 5@3 now 5 last 0"},
		{exchange(2, 0, 1, 2), "$1 a 0@1 1@3 2@2 now 1 last 0\n$2 b 0@4 4@5 5@6 now 5 last 0"},
		{exchange(1, 0, 2, 0), "$1 a 0@2 1@3 2@4 now 1 last 0\n$2 b 0@1 4@5 5@6 now 5 last 0"},
		{exchange(1, 1, 1, 1), "$1 a 0@1 1@3 2@4 now 1 last 0\n$2 b 0@2 4@5 5@6 now 5 last 0"},
	} {
		d := twoSessions(t)
		windows := show(api.State{Windows: d.s.State().Windows})
		d.must(x.do)
		d.sessionsAre(x.want)
		if got := show(api.State{Windows: d.s.State().Windows}); got != windows {
			t.Errorf("%v has changed a window:\n%s", x.do, got)
		}
		d.must(x.do)
		d.sessionsAre("$1 a 0@1 1@3 2@4 now 1 last 0\n$2 b 0@2 4@5 5@6 now 5 last 0")
	}
	d := twoSessions(t)
	for _, id := range noIds() {
		d.fails(exchange(id, 0, 1, 0), api.ErrNoSession)
		d.fails(exchange(1, 77, id, 0), api.ErrNoSession)
		d.fails(exchange(id, -1, id, -1), api.ErrNoSession)
	}
	for _, index := range []int{-1, 3, 9999, 10000, math.MinInt, math.MaxInt} {
		d.fails(exchange(1, index, 2, 0), api.ErrNoIndex)
		d.fails(exchange(1, 0, 2, index), api.ErrNoIndex)
		d.fails(exchange(1, index, 1, index), api.ErrNoIndex)
	}
	d.fails(exchange(1, 4, 2, 0), api.ErrNoIndex)
	d.fails(exchange(1, 0, 2, 1), api.ErrNoIndex)
}

func TestS10Choose(t *testing.T) {
	d := small(t).all(newSession("a"), newSession("b"), newWindow(1, 3), newWindow(1, 5))
	for _, x := range []struct {
		index int
		want  string
	}{
		{0, "now 0 last -1"}, {3, "now 3 last 0"}, {3, "now 3 last 0"}, {5, "now 5 last 3"}, {3, "now 3 last 5"}, {0, "now 0 last 3"}, {0, "now 0 last 3"},
	} {
		d.must(choose(1, x.index))
		d.sessionsAre("$1 a 0@1 3@3 5@4 " + x.want + "\n$2 b 0@2 now 0 last -1")
	}
}
