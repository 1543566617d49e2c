package tail

import (
	"math"
	"slices"
	"strings"
	"testing"

	"mullion/api"
)

// model is the tests' own Log: it never lets a byte go, and goes byte by byte and line by line.
type model struct {
	limit int
	born  int // the offset of its first byte
	all   string
}

func (m *model) end() int { return m.born + len(m.all) }

func (m *model) start() int { return m.end() - len(m.kept()) }

func (m *model) kept() string {
	if len(m.all) <= m.limit {
		return m.all
	}
	return m.all[len(m.all)-m.limit:]
}

func (m *model) read(from, most int) (string, int, api.Errno) {
	if from < 0 || most < 0 {
		return "", 0, api.ErrArg
	}
	if from < m.start() {
		return "", 0, api.ErrGone
	}
	if from > m.end() {
		return "", 0, api.ErrAhead
	}
	var told []byte
	for most > 0 && from < m.end() {
		told = append(told, m.all[from-m.born])
		from++
		most--
	}
	return string(told), from, api.OK
}

func (m *model) lines(n int) string {
	if n < 1 {
		return ""
	}
	lines := strings.SplitAfter(m.kept(), "\n")
	if lines[len(lines)-1] == "" {
		lines = lines[:len(lines)-1]
	}
	if n < len(lines) {
		lines = lines[len(lines)-n:]
	}
	return strings.Join(lines, "")
}

func made(t *testing.T, limit int) *Log {
	t.Helper()
	l, err := New(limit)
	if l == nil || err != api.OK {
		t.Fatalf("New(%d) = %v, %d", limit, l, err)
	}
	return l
}

func loaded(t *testing.T, limit, start int, data string) *Log {
	t.Helper()
	l, err := Load(limit, start, data)
	if l == nil || err != api.OK {
		t.Fatalf("Load(%d, %d, %.40q) = %v, %d", limit, start, data, l, err)
	}
	return l
}

// lay lays the same bytes into a Log and into its model.
func lay(t *testing.T, l *Log, m *model, data string) {
	t.Helper()
	if err := l.Append(data); err != api.OK {
		t.Fatalf("Append of %d bytes at %d: error %d", len(data), m.end(), err)
	}
	m.all += data
}

// wantKept holds what a Log keeps against its model.
func wantKept(t *testing.T, l *Log, m *model) {
	t.Helper()
	if l.Start() != m.start() || l.End() != m.end() || l.Limit() != m.limit || l.All() != m.kept() {
		t.Fatalf("behind %.60q from %d on: %d..%d, limit %d, %.60q; want %d..%d, limit %d, %.60q", m.all, m.born,
			l.Start(), l.End(), l.Limit(), l.All(), m.start(), m.end(), m.limit, m.kept())
	}
}

func wantRead(t *testing.T, l *Log, m *model, from, most int) {
	t.Helper()
	got, next, err := l.Read(from, most)
	want, wantNext, wantErr := m.read(from, most)
	if got != want || next != wantNext || err != wantErr {
		t.Fatalf("%d..%d: Read(%d, %d) = %.60q, %d, error %d; want %.60q, %d, error %d",
			m.start(), m.end(), from, most, got, next, err, want, wantNext, wantErr)
	}
}

func wantLines(t *testing.T, l *Log, m *model, n int) {
	t.Helper()
	if got, want := l.Lines(n), m.lines(n); got != want {
		t.Fatalf("Lines(%d) of %.60q = %.60q; want %.60q", n, m.kept(), got, want)
	}
}

// wantAnswers asks for all that a Log can tell, at its edges and within.
func wantAnswers(t *testing.T, l *Log, m *model) {
	t.Helper()
	wantKept(t, l, m)
	mosts := around(0, 1, len(m.kept()))
	for _, from := range around(0, m.start(), m.start()+len(m.kept())/2, m.end()) {
		for _, most := range mosts {
			wantRead(t, l, m, from, most)
		}
	}
	for _, n := range around(0, 1, strings.Count(m.kept(), "\n")) {
		wantLines(t, l, m, n)
	}
	wantKept(t, l, m)
}

// around is the least and the greatest number, some numbers, and those beside them.
func around(numbers ...int) []int {
	all := []int{math.MinInt, math.MaxInt}
	for _, n := range numbers {
		all = append(all, n-1, n, n+1)
	}
	slices.Sort(all)
	return slices.Compact(all)
}

// texts is every text over some bytes with at most so many of them.
func texts(bytes string, most int) []string {
	all := []string{""}
	last := all
	for range most {
		var next []string
		for _, s := range last {
			for i := range len(bytes) {
				next = append(next, s+bytes[i:i+1])
			}
		}
		all = append(all, next...)
		last = next
	}
	return all
}

// numbered is bytes that differ with their offsets, with line ends among them; it does not come round with any limit.
func numbered(from, n int) string {
	b := make([]byte, n)
	for i := range b {
		o := uint64(from + i)
		o ^= o >> 17
		o *= 0x9e3779b97f4a7c15
		b[i] = byte(o >> 40)
		if o>>60 == 0 {
			b[i] = '\n'
		}
	}
	return string(b)
}
