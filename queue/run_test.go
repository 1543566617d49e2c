package queue

import (
	"math"
	"math/rand"
	"strings"
	"testing"

	"mullion/api"
)

// run is a pair on which calls are made by chance. It notes beside the model, what the two promises over all calls ask for.
type run struct {
	*pair
	r     *rand.Rand
	laid  strings.Builder // each line that was laid in, with its byte 10
	told  strings.Builder // what the Drains answered
	last  int             // the bytes of the last line, with its byte 10
	count map[string]int  // how often each call had each outcome
}

// lines makes lines that have so many bytes in all, with their ends.
func (r *run) lines(bytes int) []string {
	var lines []string
	for bytes > 0 {
		size := min(bytes, api.MaxLine+1)
		if r.r.Intn(3) == 0 {
			size = 1 + r.r.Intn(size)
		}
		lines = append(lines, strings.Repeat(string(rune('a'+r.r.Intn(26))), size-1))
		bytes -= size
	}
	return lines
}

// some is a number of bytes: mostly a few, at times just what is left up to a bound, or a byte beside that.
func (r *run) some(bound int) int {
	switch r.r.Intn(8) {
	case 0:
		return bound - r.q.Size() + r.r.Intn(3) - 1
	case 1:
		return r.r.Intn(20000)
	case 2:
		return 0
	}
	return 1 + r.r.Intn(9)
}

// spoil lays at times a line among the others that no queue takes.
func (r *run) spoil(lines []string) []string {
	if r.r.Intn(25) > 0 {
		return lines
	}
	bad := "a\nb"
	if r.r.Intn(2) == 0 {
		bad = strings.Repeat("x", api.MaxLine+1)
	}
	at := r.r.Intn(len(lines) + 1)
	return append(append(append([]string{}, lines[:at]...), bad), lines[at:]...)
}

func (r *run) note(what string, err api.Errno, lines []string) {
	switch err {
	case api.OK:
		what += " ok"
		for _, line := range lines {
			r.laid.WriteString(line + "\n")
		}
	case api.ErrArg:
		what += " arg"
	case api.ErrClosed:
		what += " closed"
	case api.ErrFull:
		what += " full"
	case api.ErrSpare:
		what += " spare"
	}
	r.count[what]++
}

// step makes one call, and holds the size behind it against the bounds.
func (r *run) step(ends bool) {
	limit := r.q.Limit()
	switch k := r.r.Intn(20); {
	case k < 6:
		lines := r.spoil(r.lines(r.some(limit)))
		pane, tick := r.r.Intn(5), r.r.Intn(12)-1
		err := r.out(pane, tick, lines...)
		r.note("out", err, lines)
		if err == api.OK && len(lines) > 0 && r.q.Size() > limit {
			r.t.Fatalf("behind an Out: Size %d, limit %d", r.q.Size(), limit)
		}
	case k < 9:
		lines := r.spoil(r.lines(r.some(limit + api.Spare)))
		r.note("all", r.putAll(lines...), lines)
	case k < 12:
		lines := r.spoil(r.lines(r.some(limit + api.Spare)))
		line := strings.Join(lines, ".")
		r.note("put", r.put(line), []string{line})
	case k == 12 && (ends || r.r.Intn(50) == 0):
		line := strings.Join(r.spoil([]string{strings.Repeat("z", r.r.Intn(api.MaxLine))}), ".")
		err := r.end(line)
		r.note("end", err, []string{line})
		if err == api.OK {
			r.last = len(line) + 1
		}
	case k == 13 && r.r.Intn(4) == 0:
		r.told.WriteString(r.drain(math.MaxInt))
	case k == 14:
		r.told.WriteString(r.drain(r.r.Intn(20000)))
	default:
		r.told.WriteString(r.drain(r.r.Intn(40) - 2))
	}
	if size := r.q.Size(); size > limit+api.Spare+r.last {
		r.t.Fatalf("Size %d, limit %d, the last line %d", size, limit, r.last)
	}
}

func goes(t *testing.T, limit int, seed int64, count map[string]int) *run {
	return &run{pair: paired(t, limit), r: rand.New(rand.NewSource(seed)), count: count}
}

// wantAll holds all bytes that came out and those that are left against the lines that were laid in.
func (r *run) wantAll() {
	r.t.Helper()
	told, left := r.told.String(), string(r.q.bytes)
	if told+left != r.laid.String() {
		r.t.Fatalf("%d bytes came out, %d are left; they are not the %d bytes that were laid in", len(told), len(left), r.laid.Len())
	}
}

func wantOutcomes(t *testing.T, count map[string]int, least int) {
	t.Helper()
	for _, what := range []string{"out ok", "out arg", "out closed", "out full", "all ok", "all arg", "all closed", "all spare",
		"put ok", "put arg", "put closed", "put spare", "end ok", "end arg", "end closed"} {
		if count[what] < least {
			t.Errorf("%s: %d times", what, count[what])
		}
	}
}

func TestP148LongRuns(t *testing.T) {
	count := map[string]int{}
	for _, limit := range []int{0, 1, 2, 5, 20, 100, 1000, 20000, 65535, api.MaxLimit} {
		for seed := range 12 {
			r := goes(t, limit, int64(1000*limit+seed), count)
			for i := range 600 {
				r.step(i > 400)
				if i%20 == 0 {
					r.wantAll()
				}
			}
			r.wantAll()
			r.told.WriteString(r.drain(math.MaxInt))
			if r.told.String() != r.laid.String() {
				t.Fatalf("limit %d: what came out is not what was laid in", limit)
			}
		}
	}
	wantOutcomes(t, count, 20)
}

// Many short runs: the ends of queues are met at all sizes.
func TestP149ShortRuns(t *testing.T) {
	count := map[string]int{}
	for seed := range 4000 {
		r := goes(t, []int{0, 1, 3, 8, 30, 300}[seed%6], int64(seed), count)
		for range 1 + r.r.Intn(25) {
			r.step(true)
		}
		r.wantAll()
	}
	wantOutcomes(t, count, 20)
}

// Nobody takes anything: every bound is reached to the byte, and not passed.
func TestP149Reached(t *testing.T) {
	for _, limit := range []int{0, 1, 100, 8193, api.MaxLimit} {
		p := paired(t, limit)
		for n := api.MaxLine; n >= 0; n-- {
			for p.out(1+n%3, n%4, strings.Repeat("o", n)) == api.OK {
			}
			n -= n / 3
		}
		if p.q.Size() != limit {
			t.Errorf("output up to %d; the limit is %d", p.q.Size(), limit)
		}
		for n := api.MaxLine; n >= 0; n-- {
			for p.put(strings.Repeat("p", n)) == api.OK {
			}
			n -= n / 3
		}
		if p.q.Size() != limit+api.Spare {
			t.Errorf("lines up to %d; the limit is %d", p.q.Size(), limit)
		}
		p.want(p.end("the last"), api.OK)
		if p.q.Size() != limit+api.Spare+9 {
			t.Errorf("Size %d with the last line; the limit is %d", p.q.Size(), limit)
		}
		p.rest()
	}
}

// How the bytes are taken makes no difference to what comes out.
func TestP148HoweverTaken(t *testing.T) {
	for _, most := range []int{1, 2, 3, 7, 100, 8192, 8193, 40000, math.MaxInt} {
		p := paired(t, 3000)
		var want, got strings.Builder
		for i := range 30 {
			line := text(40 + i)
			p.want(p.out(1+i%3, i/2, line, ""), api.OK)
			p.want(p.put(line), api.OK)
			want.WriteString(line + "\n\n" + line + "\n")
			for p.q.Size() > 2500 {
				got.WriteString(p.drain(most))
			}
		}
		p.want(p.end("bye"), api.OK)
		for p.q.Size() > 0 {
			got.WriteString(p.drain(most))
		}
		if got.String() != want.String()+"bye\n" {
			t.Errorf("taken by %d at a time: what comes out is not what was laid in", most)
		}
	}
}
