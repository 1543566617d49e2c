package queue

import (
	"math"
	"slices"
	"strings"
	"testing"

	"mullion/api"
)

// The chapter's examples 1 to 4, call by call.
func TestP147Examples(t *testing.T) {
	p := paired(t, 10)
	for i, s := range []struct {
		call func() api.Errno
		want api.Errno
		size int
	}{
		{func() api.Errno { return p.put("abc") }, api.OK, 4},
		{func() api.Errno { return p.out(1, 5, "xyz") }, api.OK, 8},
		{func() api.Errno { return p.out(1, 6, "p") }, api.OK, 10},
		{func() api.Errno { return p.out(2, 6, "") }, api.ErrFull, 10},
		{func() api.Errno { return p.put("q") }, api.OK, 12},
	} {
		if err := s.call(); err != s.want || p.q.Size() != s.size {
			t.Errorf("step %d: error %d, Size %d; want %d, %d", i, err, p.q.Size(), s.want, s.size)
		}
	}
	for _, s := range []struct {
		n      int
		told   string
		oldest int
		waits  bool
		size   int
	}{{0, "", 5, true, 12}, {5, "abc\nx", 5, true, 7}, {3, "yz\n", 6, true, 4}, {2, "p\n", 0, false, 2}} {
		if got := p.drain(s.n); got != s.told || p.q.Size() != s.size {
			t.Errorf("Drain(%d) = %q, Size %d; want %q, %d", s.n, got, p.q.Size(), s.told, s.size)
		}
		if tick, ok := p.q.Oldest(1); tick != s.oldest || ok != s.waits {
			t.Errorf("Oldest(1) = %d, %v; want %d, %v", tick, ok, s.oldest, s.waits)
		}
	}
	if panes := p.q.Panes(); len(panes) != 0 {
		t.Errorf("Panes() = %v", panes)
	}
	p.want(p.out(1, 7, "aaaa", "bbbb"), api.ErrFull)
	p.want(p.end("bye"), api.OK)
	p.want(p.put("x"), api.ErrClosed)
	p.want(p.end("bye"), api.ErrClosed)
	p.want(p.putAll(), api.ErrClosed)
	if got := p.drain(100); got != "q\nbye\n" {
		t.Errorf("Drain(100) = %q", got)
	}
}

func TestP147AnotherExample(t *testing.T) {
	p := paired(t, 0)
	p.want(p.out(1, 0), api.OK)
	p.want(p.out(1, 0, ""), api.ErrFull)
	for range 4 {
		p.want(p.put(strings.Repeat("x", 8191)), api.OK)
	}
	if p.q.Size() != 32768 {
		t.Errorf("Size %d", p.q.Size())
	}
	p.want(p.put(""), api.ErrSpare)
	p.rest()
}

func TestP146HowMany(t *testing.T) {
	for closed := range 2 {
		for _, n := range []int{math.MinInt, -100, -1, 0, 1, 2, 3, 4, 5, 6, 9, 10, 11, 12, 100, api.MaxNumber, math.MaxInt} {
			p := paired(t, 100)
			p.want(p.putAll("ab", "", "cde"), api.OK)
			want := "ab\n\ncde\n"
			if closed == 1 {
				p.want(p.end("x"), api.OK)
				want += "x\n"
			}
			got := p.drain(n)
			if cut := max(0, min(n, len(want))); got != want[:cut] || p.q.Size() != len(want)-cut {
				t.Errorf("Drain(%d) of %q = %q, Size %d", n, want, got, p.q.Size())
			}
			if rest := p.drain(math.MaxInt); got+rest != want {
				t.Errorf("Drain(%d) of %q = %q, and then %q", n, want, got, rest)
			}
			if again := p.drain(n); again != "" {
				t.Errorf("Drain(%d) of an empty queue = %q", n, again)
			}
			if p.q.Closed() != (closed == 1) {
				t.Error("a Drain opens or closes")
			}
		}
	}
}

// Every two cuts of a queue of several owners.
func TestP146EveryCut(t *testing.T) {
	const whole = "ab\nc\n\nd\n\nef\nlast\n"
	for first := range len(whole) + 2 {
		for second := range len(whole) + 2 {
			p := paired(t, 12)
			p.want(p.out(2, 3, "ab", "c"), api.OK)
			p.want(p.out(2, 4, ""), api.OK)
			p.want(p.putAll("d", ""), api.OK)
			p.want(p.out(1, 4, "ef"), api.OK)
			p.want(p.end("last"), api.OK)
			if got := p.drain(first) + p.drain(second) + p.drain(math.MaxInt); got != whole {
				t.Fatalf("drained by %d and %d: %q; want %q", first, second, got, whole)
			}
		}
	}
}

// What is taken makes room at once, byte by byte.
func TestP146MakesRoom(t *testing.T) {
	p := paired(t, 6)
	p.want(p.out(1, 1, "abcde"), api.OK)
	for i := range 5 {
		p.want(p.out(1, 2+i, ""), api.ErrFull)
		if got := p.drain(1); got != "abcde"[i:i+1] {
			t.Errorf("Drain(1) = %q", got)
		}
		p.want(p.out(1, 2+i, ""), api.OK)
	}
	if got := p.drain(9); got != "\n\n\n\n\n\n" {
		t.Errorf("Drain(9) = %q", got)
	}
}

func wantOldest(t *testing.T, q *Queue, pane, tick int, ok bool) {
	t.Helper()
	if got, is := q.Oldest(pane); got != tick || is != ok {
		t.Errorf("Oldest(%d) = %d, %v; want %d, %v", pane, got, is, tick, ok)
	}
}

func wantPanes(t *testing.T, q *Queue, panes ...int) {
	t.Helper()
	if got := q.Panes(); !slices.Equal(got, panes) {
		t.Errorf("Panes() = %v; want %v", got, panes)
	}
}

// The tick is that of the first by the order in the queue, be it the greatest or not.
func TestP147ByTheOrderInTheQueue(t *testing.T) {
	p := paired(t, 100)
	for _, tick := range []int{7, 3, 9, 9, 0, 3} {
		p.want(p.out(5, tick, "x"), api.OK)
	}
	for _, tick := range []int{7, 3, 9, 9, 0, 3} {
		wantOldest(t, p.q, 5, tick, true)
		p.drain(1)
		wantOldest(t, p.q, 5, tick, true)
		p.drain(1)
	}
	wantOldest(t, p.q, 5, 0, false)
	wantPanes(t, p.q)
}

// A line waits as long as its byte 10 does.
func TestP147TakenUpToTheEnd(t *testing.T) {
	for _, line := range []string{"", "a", "abc"} {
		p := paired(t, 100)
		p.want(p.out(1, 4, line), api.OK)
		p.want(p.out(2, 5, line), api.OK)
		p.drain(len(line))
		wantPanes(t, p.q, 1, 2)
		wantOldest(t, p.q, 1, 4, true)
		p.drain(1)
		wantPanes(t, p.q, 2)
		wantOldest(t, p.q, 1, 0, false)
		wantOldest(t, p.q, 2, 5, true)
		p.drain(len(line))
		wantPanes(t, p.q, 2)
		p.drain(1)
		wantPanes(t, p.q)
		wantOldest(t, p.q, 2, 0, false)
	}
}

// Lines of one pane and one tick that were laid in together, and in several calls, each wait for themselves.
func TestP147LinesOfOneCall(t *testing.T) {
	p := paired(t, 100)
	p.want(p.out(1, 4, "a", "b"), api.OK)
	p.want(p.out(1, 4, "c"), api.OK)
	p.want(p.out(1, 5, "d"), api.OK)
	for range 3 {
		wantOldest(t, p.q, 1, 4, true)
		p.drain(2)
	}
	wantOldest(t, p.q, 1, 5, true)
	p.want(p.out(1, 4, "e"), api.OK)
	wantOldest(t, p.q, 1, 5, true)
	p.drain(2)
	wantOldest(t, p.q, 1, 4, true)
	p.drain(1)
	p.want(p.out(1, 4, "f"), api.OK) // behind a line that was taken in part
	p.drain(1)
	wantOldest(t, p.q, 1, 4, true)
	p.drain(1)
	wantOldest(t, p.q, 1, 4, true)
	p.drain(1)
	wantOldest(t, p.q, 1, 0, false)
}

func TestP147OtherLinesBetween(t *testing.T) {
	p := paired(t, 100)
	p.want(p.put("first"), api.OK)
	p.want(p.out(9, 1, "a"), api.OK)
	p.want(p.putAll("x", ""), api.OK)
	p.want(p.out(9, 1, "b"), api.OK)
	p.want(p.put(""), api.OK)
	p.want(p.out(2, 0, "c"), api.OK)
	p.want(p.out(9, 2, "d"), api.OK)
	p.want(p.end("bye"), api.OK)
	for _, s := range []struct {
		n        int
		told     string
		of9, of2 int // -1: none waits
	}{
		{0, "", 1, 0}, {6, "first\n", 1, 0}, {2, "a\n", 1, 0}, {3, "x\n\n", 1, 0}, {2, "b\n", 2, 0},
		{1, "\n", 2, 0}, {1, "c", 2, 0}, {1, "\n", 2, -1}, {2, "d\n", -1, -1}, {9, "bye\n", -1, -1},
	} {
		if got := p.drain(s.n); got != s.told {
			t.Errorf("Drain(%d) = %q; want %q", s.n, got, s.told)
		}
		wantOldest(t, p.q, 9, max(0, s.of9), s.of9 >= 0)
		wantOldest(t, p.q, 2, max(0, s.of2), s.of2 >= 0)
	}
}

func TestP147PanesRise(t *testing.T) {
	p := paired(t, 1000)
	for _, pane := range []int{5, 3, 5, api.MaxNumber, 1, 3, 3, 12, 2, 5, 12, api.MaxNumber, 1} {
		p.want(p.out(pane, pane%7, "x"), api.OK)
	}
	wantPanes(t, p.q, 1, 2, 3, 5, 12, api.MaxNumber)
	p.drain(2)
	wantPanes(t, p.q, 1, 2, 3, 5, 12, api.MaxNumber)
	p.drain(14)
	wantPanes(t, p.q, 1, 2, 5, 12, api.MaxNumber)
	p.drain(2)
	wantPanes(t, p.q, 1, 5, 12, api.MaxNumber)
	p.drain(2)
	wantPanes(t, p.q, 1, 12, api.MaxNumber)
	p.drain(2)
	wantPanes(t, p.q, 1, api.MaxNumber)
	p.drain(3)
	wantPanes(t, p.q, 1)
	p.drain(1)
	wantPanes(t, p.q)
}

// Lines that are no output belong to no pane, also not to one that may not be.
func TestP147PanesOfWhichNothingWaits(t *testing.T) {
	p := paired(t, 100)
	p.want(p.put("x"), api.OK)
	p.want(p.out(3, 8, "y"), api.OK)
	p.want(p.putAll("x", "y"), api.OK)
	p.want(p.end("z"), api.OK)
	for _, pane := range []int{math.MinInt, -3, -1, 0, 1, 2, 4, 8, api.MaxNumber, math.MaxInt} {
		wantOldest(t, p.q, pane, 0, false)
	}
	wantOldest(t, p.q, 3, 8, true)
	wantPanes(t, p.q, 3)
}

// Each line of output has another owner than its neighbours: as many pieces as there can be.
func TestP147ManyPanes(t *testing.T) {
	q := made(t, api.MaxLimit)
	for i := range api.MaxLimit {
		if err := q.Out(api.MaxLimit-i, i, []string{""}); err != api.OK {
			t.Fatalf("Out %d: error %d", i, err)
		}
	}
	panes := q.Panes()
	if len(panes) != api.MaxLimit || panes[0] != 1 || panes[api.MaxLimit-1] != api.MaxLimit || !slices.IsSorted(panes) {
		t.Errorf("Panes() has %d panes", len(panes))
	}
	wantOldest(t, q, 1, api.MaxLimit-1, true)
	q.Drain(api.MaxLimit - 2)
	wantPanes(t, q, 1, 2)
	wantOldest(t, q, 1, api.MaxLimit-1, true)
	wantOldest(t, q, 2, api.MaxLimit-2, true)
	wantOldest(t, q, 3, 0, false)
}
