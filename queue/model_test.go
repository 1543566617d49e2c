package queue

import (
	"math"
	"slices"
	"strings"
	"testing"

	"mullion/api"
)

// laid is one line that was laid in. It waits until as many bytes were taken as there are up to the place behind its byte 10.
type laid struct {
	behind     int
	output     bool
	pane, tick int
}

// model is the tests' own queue: it never lets a line go, and counts what was taken.
type model struct {
	limit  int
	closed bool
	all    []byte
	lines  []laid
	taken  int
	gone   int // so many of the lines wait no more
}

func (m *model) size() int { return len(m.all) - m.taken }

func (m *model) put(line string) api.Errno { return m.putAll([]string{line}) }

func (m *model) putAll(lines []string) api.Errno {
	if hasBad(lines) {
		return api.ErrArg
	}
	if m.closed {
		return api.ErrClosed
	}
	if m.size()+bytesOf(lines) > m.limit+api.Spare {
		return api.ErrSpare
	}
	m.lay(lines, laid{})
	return api.OK
}

func (m *model) out(pane, tick int, lines []string) api.Errno {
	if pane < 1 || pane > api.MaxNumber || tick < 0 || hasBad(lines) {
		return api.ErrArg
	}
	if m.closed {
		return api.ErrClosed
	}
	if len(lines) > 0 && m.size()+bytesOf(lines) > m.limit {
		return api.ErrFull
	}
	m.lay(lines, laid{output: true, pane: pane, tick: tick})
	return api.OK
}

func (m *model) end(line string) api.Errno {
	if hasBad([]string{line}) {
		return api.ErrArg
	}
	if m.closed {
		return api.ErrClosed
	}
	m.lay([]string{line}, laid{})
	m.closed = true
	return api.OK
}

func (m *model) lay(lines []string, l laid) {
	for _, line := range lines {
		m.all = append(m.all, line+"\n"...)
		l.behind = len(m.all)
		m.lines = append(m.lines, l)
	}
}

func (m *model) drain(n int) string {
	var told []byte
	for ; n > 0 && m.taken < len(m.all); n-- {
		told = append(told, m.all[m.taken])
		m.taken++
	}
	for m.gone < len(m.lines) && m.lines[m.gone].behind <= m.taken {
		m.gone++
	}
	return string(told)
}

func (m *model) oldest(pane int) (int, bool) {
	for _, l := range m.lines[m.gone:] {
		if l.output && l.pane == pane {
			return l.tick, true
		}
	}
	return 0, false
}

func (m *model) panes() []int {
	oldest := map[int]int{}
	for _, l := range m.lines[m.gone:] {
		if l.output {
			oldest[l.pane] = l.tick
		}
	}
	var panes []int
	for pane := range oldest {
		panes = append(panes, pane)
	}
	slices.Sort(panes)
	return panes
}

func hasBad(lines []string) bool {
	for _, line := range lines {
		if len(line) > api.MaxLine || strings.Contains(line, "\n") {
			return true
		}
	}
	return false
}

// bytesOf counts what lines are in a queue.
func bytesOf(lines []string) int { return len(strings.Join(lines, "\n")) + min(1, len(lines)) }

// pair is a queue and its model: each call is made on both, and what they answer and tell of themselves is held against each other.
type pair struct {
	t *testing.T
	q *Queue
	m *model
}

func made(t *testing.T, limit int) *Queue {
	t.Helper()
	q, err := New(limit)
	if q == nil || err != api.OK {
		t.Fatalf("New(%d) = %v, error %d", limit, q, err)
	}
	return q
}

func paired(t *testing.T, limit int) *pair {
	t.Helper()
	p := &pair{t, made(t, limit), &model{limit: limit}}
	p.look()
	return p
}

// filled is a pair in which so many bytes wait, that are no output.
func filled(t *testing.T, limit, size int) *pair {
	t.Helper()
	p := paired(t, limit)
	for size > 0 {
		n := min(size, api.MaxLine+1)
		p.want(p.put(text(n-1)), api.OK)
		size -= n
	}
	return p
}

func (p *pair) put(line string) api.Errno {
	p.t.Helper()
	return p.agree("Put", p.q.Put(line), p.m.put(line))
}

func (p *pair) putAll(lines ...string) api.Errno {
	p.t.Helper()
	return p.agree("PutAll", p.q.PutAll(lines), p.m.putAll(lines))
}

func (p *pair) out(pane, tick int, lines ...string) api.Errno {
	p.t.Helper()
	return p.agree("Out", p.q.Out(pane, tick, lines), p.m.out(pane, tick, lines))
}

func (p *pair) end(line string) api.Errno {
	p.t.Helper()
	return p.agree("End", p.q.End(line), p.m.end(line))
}

func (p *pair) drain(n int) string {
	p.t.Helper()
	got, want := p.q.Drain(n), p.m.drain(n)
	if got != want {
		p.t.Fatalf("Drain(%d) = %d bytes, %.60q; want %d bytes, %.60q", n, len(got), got, len(want), want)
	}
	p.look()
	return got
}

func (p *pair) agree(what string, got, want api.Errno) api.Errno {
	p.t.Helper()
	if got != want {
		p.t.Fatalf("%s with %d of the limit %d: error %d; want %d", what, p.m.size(), p.m.limit, got, want)
	}
	p.look()
	return got
}

func (p *pair) want(got, want api.Errno) {
	p.t.Helper()
	if got != want {
		p.t.Fatalf("with %d of the limit %d: error %d; want %d", p.m.size(), p.m.limit, got, want)
	}
}

// look asks for all that a queue tells of itself, of panes that are there and of some that are not.
func (p *pair) look() {
	p.t.Helper()
	q, m := p.q, p.m
	if q.Size() != m.size() || q.Limit() != m.limit || q.Closed() != m.closed {
		p.t.Fatalf("Size %d, Limit %d, Closed %v; want %d, %d, %v", q.Size(), q.Limit(), q.Closed(), m.size(), m.limit, m.closed)
	}
	panes := m.panes()
	if got := q.Panes(); !slices.Equal(got, panes) {
		p.t.Fatalf("Panes() = %v; want %v", got, panes)
	}
	for _, pane := range append(panes, math.MinInt, -1, 0, 1, 2, 3, 4, api.MaxNumber, api.MaxNumber+1, math.MaxInt) {
		tick, ok := q.Oldest(pane)
		if want, wantOk := m.oldest(pane); tick != want || ok != wantOk {
			p.t.Fatalf("Oldest(%d) = %d, %v; want %d, %v", pane, tick, ok, want, wantOk)
		}
	}
}

// rest takes all that is left, and so holds every byte against the model's.
func (p *pair) rest() {
	p.t.Helper()
	p.drain(math.MaxInt)
	if p.q.Size() != 0 {
		p.t.Fatalf("Size %d behind the last byte", p.q.Size())
	}
}

// text is a line of so many bytes that are not all alike, and that no other length begins with.
func text(n int) string {
	b := make([]byte, n)
	for i := range b {
		b[i] = byte((i+n)*(i+7)%251 + 11)
	}
	return string(b)
}

// badLines are lines that no queue takes.
func badLines() []string {
	return []string{"\n", "a\n", "\nb", "a\nb", "\n\n", text(100) + "\n" + text(100), text(api.MaxLine-1) + "\n",
		text(api.MaxLine + 1), text(api.MaxLine + 2), text(api.MaxLine) + "\n", text(70000), text(200000)}
}

// goodLines are lines that fit into an empty queue of any limit.
func goodLines() []string {
	return []string{"", "a", "abc", "\r", "\x00", "\xff\xfe", "%end 0 1 1", "a\\012b", "äöü", text(250), text(api.MaxLine - 1), text(api.MaxLine)}
}
