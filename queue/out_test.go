package queue

import (
	"math"
	"slices"
	"testing"

	"mullion/api"
)

// wrongOutputs are panes and ticks that may not be.
func wrongOutputs() [][2]int {
	return [][2]int{{0, 0}, {-1, 0}, {math.MinInt, 0}, {api.MaxNumber + 1, 0}, {math.MaxInt, 0},
		{1, -1}, {1, -2}, {1, math.MinInt}, {api.MaxNumber, -1}, {0, -1}, {math.MaxInt, math.MinInt}}
}

func rightOutputs() [][2]int {
	return [][2]int{{1, 0}, {1, 1}, {2, 0}, {7, 1000}, {api.MaxNumber - 1, 3}, {api.MaxNumber, 0}, {1, api.MaxNumber},
		{1, api.MaxNumber + 1}, {api.MaxNumber, math.MaxInt}}
}

func TestP144PanesAndTicks(t *testing.T) {
	for _, o := range wrongOutputs() {
		p := filled(t, 10, 3)
		for _, lines := range [][]string{nil, {}, {""}, {"a"}, {"a", "b"}, {"a\n"}, {text(20)}} {
			p.want(p.out(o[0], o[1], lines...), api.ErrArg)
		}
		p.want(p.put(text(50)), api.OK)
		p.want(p.out(o[0], o[1]), api.ErrArg)
		p.want(p.out(o[0], o[1], "a"), api.ErrArg)
		p.want(p.end("bye"), api.OK)
		p.want(p.out(o[0], o[1]), api.ErrArg)
		p.want(p.out(o[0], o[1], "a"), api.ErrArg)
		p.rest()
		p.want(p.out(o[0], o[1]), api.ErrArg)
	}
	for _, o := range rightOutputs() {
		p := filled(t, 10, 3)
		p.want(p.out(o[0], o[1], "abc"), api.OK)
		if tick, ok := p.q.Oldest(o[0]); tick != o[1] || !ok {
			t.Errorf("Oldest(%d) = %d, %v; want %d", o[0], tick, ok, o[1])
		}
		if got := p.q.Panes(); !slices.Equal(got, []int{o[0]}) {
			t.Errorf("Panes() = %v; want %d", got, o[0])
		}
		p.rest()
	}
}

func TestP144BadLines(t *testing.T) {
	for _, bad := range badLines() {
		for _, lines := range [][]string{{bad}, {bad, "a", "b"}, {"a", bad, "b"}, {"a", "b", bad}, {bad, bad}} {
			for _, size := range []int{0, 9, 10, 50} { // with room, and with none
				p := filled(t, 10, size)
				p.want(p.out(1, 0, lines...), api.ErrArg)
				p.want(p.end("bye"), api.OK)
				p.want(p.out(1, 0, lines...), api.ErrArg)
				p.want(p.out(1, 0, "a"), api.ErrClosed)
				p.rest()
				p.want(p.out(1, 0, lines...), api.ErrArg)
			}
		}
	}
	for _, line := range goodLines() {
		p := paired(t, 9000)
		p.want(p.out(1, 0, "x", line, "y"), api.OK)
		if got, want := p.drain(math.MaxInt), "x\n"+line+"\ny\n"; got != want {
			t.Errorf("what comes out is %.60q; want %.60q", got, want)
		}
	}
}

func TestP144UpToTheLimit(t *testing.T) {
	for _, lines := range [][]string{{""}, {"", ""}, {"a", "", "bcd"}, {text(256), text(256), text(17)}, {text(8192), text(8192)}} {
		need := bytesOf(lines)
		for _, limit := range []int{need, need + 1, need + 100, api.MaxLimit} {
			room := limit - need
			for _, size := range []int{0, room / 2, max(0, room-1), room} {
				p := filled(t, limit, size)
				p.want(p.out(3, 5, lines...), api.OK)
				if p.q.Size() != size+need || p.q.Size() > limit {
					t.Errorf("Size %d; want %d", p.q.Size(), size+need)
				}
				p.rest()
			}
			for _, size := range []int{room + 1, room + len(lines), limit, limit + 1, limit + api.Spare} {
				p := filled(t, limit, size)
				p.want(p.out(3, 5, lines...), api.ErrFull)
				if p.q.Size() != size || len(p.q.Panes()) != 0 {
					t.Errorf("Size %d; want %d: a part was laid in", p.q.Size(), size)
				}
				p.drain(size - room)
				p.want(p.out(3, 5, lines...), api.OK)
				p.rest()
			}
		}
		for _, limit := range []int{0, need / 2, need - 1} {
			p := paired(t, limit)
			p.want(p.out(3, 5, lines...), api.ErrFull)
			p.rest()
		}
	}
}

// All the lines together are beyond the limit by their ends alone, though each of them would fit.
func TestP144AllOrNone(t *testing.T) {
	p := paired(t, 10)
	p.want(p.out(1, 0, "ab"), api.OK)
	p.want(p.out(2, 1, "a", "b", "c", "d"), api.ErrFull)
	p.want(p.out(2, 1, make([]string, 8)...), api.ErrFull)
	p.want(p.out(1, 1, "a", "b", "c", "d"), api.ErrFull)
	if got := p.q.Panes(); !slices.Equal(got, []int{1}) {
		t.Errorf("Panes() = %v", got)
	}
	p.want(p.out(2, 1, make([]string, 7)...), api.OK)
	p.want(p.out(2, 1, ""), api.ErrFull)
	if got := p.drain(math.MaxInt); got != "ab\n\n\n\n\n\n\n\n" {
		t.Errorf("what comes out is %q", got)
	}
}

// Lines that are no output may have led beyond the limit: no lines at all are none too many there.
func TestP144NoLines(t *testing.T) {
	for _, limit := range []int{0, 1, 10} {
		for _, size := range []int{0, limit, limit + 1, limit + 500, limit + api.Spare} {
			p := filled(t, limit, size)
			for _, o := range rightOutputs() {
				for _, none := range [][]string{nil, {}} {
					p.want(p.out(o[0], o[1], none...), api.OK)
					if p.q.Size() != size || len(p.q.Panes()) != 0 || p.q.Closed() {
						t.Errorf("behind no lines: Size %d, Panes %v, Closed %v", p.q.Size(), p.q.Panes(), p.q.Closed())
					}
				}
			}
			p.want(p.end("bye"), api.OK)
			for range 2 {
				p.want(p.out(1, 0), api.ErrClosed)
				p.want(p.out(1, 0, []string{}...), api.ErrClosed)
				p.want(p.out(0, 0), api.ErrArg)
				p.want(p.out(1, -1), api.ErrArg)
				p.rest()
			}
		}
	}
}

func TestP144Closed(t *testing.T) {
	for _, size := range []int{0, 5, 10, 100} {
		p := filled(t, 10, size)
		p.want(p.end("bye"), api.OK)
		for range 2 {
			p.want(p.out(1, 0, "a"), api.ErrClosed)
			p.want(p.out(1, 0, text(50)), api.ErrClosed)
			p.rest()
		}
	}
}

func TestP145End(t *testing.T) {
	for _, size := range []int{0, 1, 10, 11, 1000, 10 + api.Spare - 1, 10 + api.Spare} {
		for _, line := range goodLines() {
			p := filled(t, 10, size)
			p.want(p.end(line), api.OK)
			if !p.q.Closed() || p.q.Size() != size+len(line)+1 {
				t.Errorf("behind End of %d bytes: Closed %v, Size %d", len(line), p.q.Closed(), p.q.Size())
			}
			p.want(p.end(line), api.ErrClosed)
			p.want(p.end(""), api.ErrClosed)
			p.drain(size)
			if got := p.drain(math.MaxInt); got != line+"\n" {
				t.Errorf("the last line is %.40q; want %.40q", got, line)
			}
			if !p.q.Closed() {
				t.Error("an empty queue is open again")
			}
			p.want(p.end(line), api.ErrClosed)
		}
	}
}

func TestP145BadLines(t *testing.T) {
	for _, bad := range badLines() {
		p := filled(t, 10, 20)
		p.want(p.end(bad), api.ErrArg)
		if p.q.Closed() || p.q.Size() != 20 {
			t.Errorf("behind a bad last line: Closed %v, Size %d", p.q.Closed(), p.q.Size())
		}
		p.want(p.put("x"), api.OK)
		p.want(p.end("bye"), api.OK)
		p.want(p.end(bad), api.ErrArg)
		p.rest()
		p.want(p.end(bad), api.ErrArg)
		p.want(p.end("bye"), api.ErrClosed)
	}
}

// The greatest last line behind all that a queue of the greatest limit takes.
func TestP145BeyondAllBounds(t *testing.T) {
	for _, limit := range []int{0, 1, api.MaxLimit} {
		p := filled(t, limit, limit+api.Spare)
		p.want(p.put(""), api.ErrSpare)
		p.want(p.end(text(api.MaxLine)), api.OK)
		if got, want := p.q.Size(), limit+api.Spare+api.MaxLine+1; got != want {
			t.Errorf("Size %d; want %d", got, want)
		}
		p.rest()
	}
}

func TestP145WhatIsRefusedBehindIt(t *testing.T) {
	p := paired(t, 100)
	p.want(p.out(4, 9, "some", "output"), api.OK)
	p.want(p.end("bye"), api.OK)
	for range 3 {
		p.want(p.put(""), api.ErrClosed)
		p.want(p.put("x"), api.ErrClosed)
		p.want(p.putAll(), api.ErrClosed)
		p.want(p.putAll("x", "y"), api.ErrClosed)
		p.want(p.out(4, 9), api.ErrClosed)
		p.want(p.out(4, 9, "x"), api.ErrClosed)
		p.want(p.end("x"), api.ErrClosed)
		p.drain(6)
	}
	if tick, ok := p.q.Oldest(4); ok {
		t.Errorf("Oldest(4) = %d, %v: the last line is no output", tick, ok)
	}
	p.rest()
}
