package queue

import (
	"math"
	"strings"
	"testing"

	"mullion/api"
)

func TestP141Limits(t *testing.T) {
	for _, limit := range []int{math.MinInt, -65536, -2, -1, api.MaxLimit + 1, api.MaxLimit + 2, api.MaxLimit + api.Spare, api.MaxNumber, math.MaxInt} {
		if q, err := New(limit); q != nil || err != api.ErrArg {
			t.Errorf("New(%d) = %v, error %d", limit, q, err)
		}
	}
	for _, limit := range []int{0, 1, 2, 30, 1000, 32768, api.MaxLimit - 1, api.MaxLimit} {
		q, err := New(limit)
		if q == nil || err != api.OK {
			t.Errorf("New(%d) = %v, error %d", limit, q, err)
		}
	}
}

func TestP141AnEmptyQueue(t *testing.T) {
	for _, limit := range []int{0, 1, 999, api.MaxLimit} {
		q := made(t, limit)
		if q.Size() != 0 || q.Limit() != limit || q.Closed() || len(q.Panes()) != 0 {
			t.Errorf("New(%d): Size %d, Limit %d, Closed %v, Panes %v", limit, q.Size(), q.Limit(), q.Closed(), q.Panes())
		}
		for _, pane := range []int{math.MinInt, -1, 0, 1, 2, api.MaxNumber, math.MaxInt} {
			if tick, ok := q.Oldest(pane); tick != 0 || ok {
				t.Errorf("New(%d): Oldest(%d) = %d, %v", limit, pane, tick, ok)
			}
		}
		for _, n := range []int{-1, 0, 1, math.MaxInt} {
			if s := q.Drain(n); s != "" {
				t.Errorf("New(%d): Drain(%d) = %q", limit, n, s)
			}
		}
	}
}

func TestP142Lines(t *testing.T) {
	for _, line := range goodLines() {
		p := paired(t, 10)
		p.want(p.put(line), api.OK)
		if got := p.q.Size(); got != len(line)+1 {
			t.Errorf("Size behind Put of %d bytes: %d", len(line), got)
		}
		if got := p.drain(math.MaxInt); got != line+"\n" {
			t.Errorf("Put(%.40q): %.40q comes out", line, got)
		}
	}
	for _, line := range badLines() {
		p := filled(t, 10, 20)
		p.want(p.put(line), api.ErrArg)
		p.want(p.put("x"), api.OK)
		p.rest()
	}
}

func TestP142EveryByteButOne(t *testing.T) {
	for b := range 256 {
		want := api.OK
		if b == 10 {
			want = api.ErrArg
		}
		p := paired(t, 0)
		for _, line := range []string{string([]byte{byte(b)}), "ab" + string([]byte{byte(b)}), string([]byte{byte(b), 'c'})} {
			p.want(p.put(line), want)
		}
		p.rest()
	}
}

// The room that is left is just that of the line, a byte less, or a byte more.
func TestP142UpToTheBound(t *testing.T) {
	for _, limit := range []int{0, 1, 2, 10, 8191, 32768, api.MaxLimit - 1, api.MaxLimit} {
		bound := limit + api.Spare
		for _, length := range []int{0, 1, 2, 3, 100, api.MaxLine - 1, api.MaxLine} {
			for _, spare := range []int{0, 1, 2, 5} {
				p := filled(t, limit, bound-length-1-spare)
				p.want(p.put(text(length)), api.OK)
				p.rest()
			}
			for over := 1; over <= min(3, length+1); over++ {
				p := filled(t, limit, bound-length-1+over)
				p.want(p.put(text(length)), api.ErrSpare)
				p.want(p.put(text(length-min(length, over))), fits(over <= length))
				p.rest()
			}
		}
	}
}

func fits(yes bool) api.Errno {
	if yes {
		return api.OK
	}
	return api.ErrSpare
}

// Output that waits counts as any line does.
func TestP142BesideOutput(t *testing.T) {
	p := paired(t, 10)
	p.want(p.out(1, 0, text(4), text(4)), api.OK)
	for range 3 {
		p.want(p.put(text(8191)), api.OK)
	}
	p.want(p.put(text(8192)), api.ErrSpare)
	p.want(p.put(text(8191)), api.OK)
	p.want(p.put(""), api.ErrSpare)
	p.drain(1)
	p.want(p.put("x"), api.ErrSpare)
	p.want(p.put(""), api.OK)
	p.want(p.put(""), api.ErrSpare)
	p.rest()
}

func TestP142TheOrderOfErrors(t *testing.T) {
	for _, line := range badLines() {
		p := filled(t, 5, 5+api.Spare)
		p.want(p.put(line), api.ErrArg)
		p.want(p.put("x"), api.ErrSpare)
		p.want(p.end("bye"), api.OK)
		p.want(p.put(line), api.ErrArg)
		p.want(p.put("x"), api.ErrClosed)
		p.rest()
		p.want(p.put(line), api.ErrArg)
		p.want(p.put("x"), api.ErrClosed)
		p.want(p.put(""), api.ErrClosed)
	}
}

func TestP142BehindAllOthers(t *testing.T) {
	p := paired(t, 100)
	var want strings.Builder
	for i, line := range []string{"a", "", "bc", "", "", "d e", "f"} {
		p.want(p.put(line), api.OK)
		want.WriteString(line + "\n")
		if i%2 == 0 {
			p.want(p.out(i+1, i, line+line), api.OK)
			want.WriteString(line + line + "\n")
		}
	}
	if got := p.drain(math.MaxInt); got != want.String() {
		t.Errorf("what comes out is %q; want %q", got, want.String())
	}
}

func TestP143OneBadLine(t *testing.T) {
	good := []string{"a", "", "bc"}
	for _, bad := range badLines() {
		for _, lines := range [][]string{
			{bad},
			{bad, "a", "", "bc"},
			{"a", bad, "", "bc"},
			{"a", "", "bc", bad},
			{bad, bad},
			{"a", bad, "", bad, "bc"},
		} {
			p := filled(t, 10, 7)
			p.want(p.putAll(lines...), api.ErrArg)
			if p.q.Size() != 7 {
				t.Errorf("Size %d; want 7: a part was laid in", p.q.Size())
			}
			p.want(p.putAll(good...), api.OK)
			p.rest()
			p.want(p.end("bye"), api.OK)
			p.want(p.putAll(lines...), api.ErrArg)
			p.want(p.putAll(good...), api.ErrClosed)
			p.rest()
			// No room for the good ones either: the bad one is told first.
			p = filled(t, 10, 10+api.Spare)
			p.want(p.putAll(lines...), api.ErrArg)
			p.rest()
		}
	}
}

func TestP143UpToTheBound(t *testing.T) {
	for _, lines := range [][]string{
		{""},
		{"", ""},
		{"", "", ""},
		{"a", "", "bcd"},
		{text(8192), "", text(8192), text(1)},
		{text(5000), text(3000), "x"},
	} {
		for _, limit := range []int{0, 1, 100, api.MaxLimit} {
			room := limit + api.Spare - bytesOf(lines)
			for _, size := range []int{0, room / 2, room - 1, room} {
				p := filled(t, limit, size)
				p.want(p.putAll(lines...), api.OK)
				if got, want := p.q.Size(), size+bytesOf(lines); got != want {
					t.Errorf("Size %d; want %d", got, want)
				}
				p.rest()
			}
			for _, size := range []int{room + 1, room + len(lines), limit + api.Spare} {
				p := filled(t, limit, size)
				p.want(p.putAll(lines...), api.ErrSpare)
				if p.q.Size() != size {
					t.Errorf("Size %d; want %d: a part was laid in", p.q.Size(), size)
				}
				p.drain(size - room)
				p.want(p.putAll(lines...), api.OK)
				p.rest()
			}
		}
	}
}

// So many lines, that only their ends are beyond the bound.
func TestP143TheEndsCount(t *testing.T) {
	for _, limit := range []int{0, 7, api.MaxLimit} {
		bound := limit + api.Spare
		p := paired(t, limit)
		p.want(p.putAll(make([]string, bound+1)...), api.ErrSpare)
		p.want(p.putAll(make([]string, bound)...), api.OK)
		p.want(p.putAll(""), api.ErrSpare)
		p.rest()
		half := make([]string, bound/2)
		for i := range half {
			half[i] = "x"
		}
		p.want(p.putAll(append(half, "x")...), api.ErrSpare)
		p.want(p.putAll(half...), api.OK)
		p.rest()
	}
}

func TestP143NoLines(t *testing.T) {
	for _, size := range []int{0, 1, 10, 11, 10 + api.Spare} {
		p := filled(t, 10, size)
		for _, none := range [][]string{nil, {}} {
			p.want(p.putAll(none...), api.OK)
			if p.q.Size() != size || p.q.Closed() {
				t.Errorf("behind no lines: Size %d, Closed %v", p.q.Size(), p.q.Closed())
			}
		}
		p.want(p.end("bye"), api.OK)
		for range 2 {
			for _, none := range [][]string{nil, {}} {
				p.want(p.putAll(none...), api.ErrClosed)
			}
			p.rest()
		}
	}
}
