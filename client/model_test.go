package client

import (
	"fmt"
	"maps"
	"math"
	"math/big"
	"slices"
	"strings"
	"testing"

	"mullion/api"
	"mullion/wire"
)

const behindLine = "%exit too far behind"

// waiting is a line of output. It waits until as many bytes were taken as there are up to the place behind its byte 10.
type waiting struct{ behind, pane, tick int }

type watched struct {
	w    api.Watch
	last []api.Event
}

// model is the tests' own client: it never lets a byte go, of what it is told and of what it has sent.
type model struct {
	limit               int
	all                 []byte
	taken               int
	outs                []waiting
	closed              bool
	session, count, age int
	paused              map[int]bool
	watches             []watched
	sent                string
	lines               int // so many lines of what it has sent were told
}

func (m *model) size() int { return len(m.all) - m.taken }

func bytesOf(lines []string) int {
	sum := 0
	for _, line := range lines {
		sum += len(line) + 1
	}
	return sum
}

func (m *model) lay(lines []string) {
	for _, line := range lines {
		m.all = append(m.all, line+"\n"...)
	}
}

func (m *model) end(line string) {
	if !m.closed {
		m.lay([]string{line})
		m.closed = true
	}
}

// tell lays lines in as a whole, or ends; it answers whether they were laid in.
func (m *model) tell(lines ...string) bool {
	if m.closed {
		return false
	}
	tooLong := slices.ContainsFunc(lines, func(line string) bool { return len(line) > api.MaxLine })
	if tooLong || m.size()+bytesOf(lines) > m.limit+api.Spare {
		m.end(behindLine)
		return false
	}
	m.lay(lines)
	return true
}

func isNumber(n int) bool { return n >= 0 && n <= api.MaxNumber }

// escaped is the chapter of layer 1, written once more.
func escaped(text string) string {
	var s strings.Builder
	for i := range len(text) {
		if b := text[i]; b < 32 || b == '\\' {
			fmt.Fprintf(&s, `\%03o`, b)
		} else {
			s.WriteByte(b)
		}
	}
	return s.String()
}

func escapedBody(text string) string {
	if rest, found := strings.CutPrefix(text, "%"); found {
		return `\045` + escaped(rest)
	}
	return escaped(text)
}

func (m *model) block(tick, number, flag int, last string, body []string) {
	if !isNumber(tick) {
		m.end(behindLine)
		return
	}
	guard := fmt.Sprintf(" %d %d %d", tick, number, flag)
	lines := []string{"%begin" + guard}
	for _, text := range body {
		lines = append(lines, escapedBody(text))
	}
	m.tell(append(lines, last+guard)...)
}

func (m *model) hello(tick int, l []api.Event) {
	m.block(tick, 0, 0, "%end", nil)
	m.notify(l...)
}

func (m *model) answer(tick int, good bool, body []string) {
	if m.closed {
		return
	}
	m.count++
	m.block(tick, m.count, 1, map[bool]string{true: "%end", false: "%error"}[good], body)
}

// isTold tells whether a kind's lines are notifications, but for the last one.
func isTold(kind int) bool { return kind >= api.EvOutput && kind <= api.EvMessage }

func (m *model) notify(l ...api.Event) {
	for _, e := range l {
		line, err := wire.Encode(e)
		if err != api.OK || !isTold(e.Kind) {
			continue
		}
		if m.tell(line) && e.Kind == api.EvPaneClose {
			delete(m.paused, e.Pane)
		}
	}
}

func (m *model) output(pane, tick, offset int, data string) {
	if m.closed || data == "" || pane < 1 || !isNumber(pane) || m.paused[pane] {
		return
	}
	var lines []string
	for i := 0; i < len(data); i += 256 {
		lines = append(lines, fmt.Sprintf("%%output %%%d %s", pane, escaped(data[i:min(i+256, len(data))])))
	}
	if tick < 0 || m.size()+bytesOf(lines) > m.limit {
		m.pause(pane, offset)
		return
	}
	for _, line := range lines {
		m.lay([]string{line})
		m.outs = append(m.outs, waiting{len(m.all), pane, tick})
	}
}

func (m *model) late(tick int) []int {
	if m.closed || m.age == 0 {
		return nil
	}
	first := map[int]int{}
	for _, o := range m.outs {
		if _, met := first[o.pane]; !met && o.behind > m.taken {
			first[o.pane] = o.tick
		}
	}
	var late []int
	for pane, since := range first {
		if !m.paused[pane] && new(big.Int).Sub(big.NewInt(int64(tick)), big.NewInt(int64(since))).Cmp(big.NewInt(int64(m.age))) > 0 {
			late = append(late, pane)
		}
	}
	slices.Sort(late)
	return late
}

func (m *model) pause(pane, offset int) {
	if m.closed || pane < 1 || !isNumber(pane) || m.paused[pane] {
		return
	}
	m.paused[pane] = true
	if isNumber(offset) {
		m.tell(fmt.Sprintf("%%pause %%%d %d", pane, offset))
	}
}

func (m *model) goOn(pane, offset int) {
	if m.closed || !m.paused[pane] {
		return
	}
	delete(m.paused, pane)
	if isNumber(offset) {
		m.tell(fmt.Sprintf("%%continue %%%d %d", pane, offset))
	}
}

func (m *model) setAge(n int) api.Errno {
	if n < 0 || n > 1000 {
		return api.ErrArg
	}
	if !m.closed {
		m.age = n
	}
	return api.OK
}

// at is where a watch stands; -1, if there is none of this name.
func (m *model) at(name string) int {
	return slices.IndexFunc(m.watches, func(w watched) bool { return w.w.Name == name })
}

// isWord is the chapter of layer 1, written once more.
func isWord(name string) bool {
	for i := range len(name) {
		if b := name[i]; b <= 32 || b > 126 || b == '.' || b == ':' || i == 0 && strings.IndexByte("!$%+-=@^{", b) >= 0 {
			return false
		}
	}
	return name != "" && len(name) <= 32
}

func (m *model) watch(w api.Watch) api.Errno {
	at := m.at(w.Name)
	switch {
	case !isWord(w.Name):
		return api.ErrArg
	case at < 0 && len(m.watches) == 8:
		return api.ErrFull
	case m.closed:
		return api.OK
	case at >= 0:
		m.watches[at] = watched{w: w}
	default:
		m.watches = append(m.watches, watched{w: w})
	}
	return api.OK
}

func (m *model) unwatch(name string) {
	if at := m.at(name); at >= 0 && !m.closed {
		m.watches = slices.Delete(m.watches, at, at+1)
	}
}

func (m *model) watchList() []api.Watch {
	var l []api.Watch
	for _, w := range m.watches {
		l = append(l, w.w)
	}
	slices.SortFunc(l, func(a, b api.Watch) int { return strings.Compare(a.Name, b.Name) })
	return l
}

func (m *model) tellWatch(name string, l []api.Event) {
	at := m.at(name)
	if at < 0 || m.closed {
		return
	}
	for _, e := range l {
		if !slices.Contains(m.watches[at].last, e) {
			m.notify(e)
		}
	}
	m.watches[at].last = slices.Clone(l)
}

func (m *model) goTo(session int, name string) {
	if m.closed {
		return
	}
	m.session = max(0, session)
	m.notify(api.Event{Kind: api.EvSession, Session: m.session, Name: name})
}

func (m *model) exit(reason string) {
	line := "%exit"
	if reason != "" && len(reason) <= 1024 {
		line += " " + escaped(reason)
	}
	m.end(line)
}

func (m *model) drain(n int) string {
	n = max(0, min(n, m.size()))
	m.taken += n
	return string(m.all[m.taken-n : m.taken])
}

func (m *model) feed(chunk string) []api.Line {
	if m.closed {
		return nil
	}
	m.sent += chunk
	texts := strings.Split(m.sent, "\n")
	var l []api.Line
	for _, text := range texts[m.lines : len(texts)-1] {
		if len(text) > 8192 {
			l = append(l, api.Line{Long: true})
		} else {
			l = append(l, api.Line{Text: text})
		}
	}
	m.lines = len(texts) - 1
	return l
}

func (m *model) peer(number int) api.Peer {
	return api.Peer{Client: number, Session: m.session, Limit: m.limit, Age: m.age, Size: m.size(), Count: m.count,
		Paused: slices.Sorted(maps.Keys(m.paused)), Watches: m.watchList(), Closed: m.closed}
}

// pair is a client and a model of it: each call is made on both, and what they answer is held against each other.
type pair struct {
	t    *testing.T
	c    *Client
	m    *model
	told strings.Builder // all that was drained
}

func made(t *testing.T, limit int) *Client {
	t.Helper()
	c, err := New(limit)
	if err != api.OK || c == nil {
		t.Fatalf("New(%d): error %d", limit, err)
	}
	return c
}

func paired(t *testing.T, limit int) *pair {
	t.Helper()
	return &pair{t: t, c: made(t, limit), m: &model{limit: limit, paused: map[int]bool{}}}
}

func samePeer(a, b api.Peer) bool {
	return a.Client == b.Client && a.Session == b.Session && a.Limit == b.Limit && a.Age == b.Age && a.Size == b.Size &&
		a.Count == b.Count && slices.Equal(a.Paused, b.Paused) && slices.Equal(a.Watches, b.Watches) && a.Closed == b.Closed
}

// look asks all that can be asked.
func (p *pair) look(what string) {
	p.t.Helper()
	for _, number := range []int{1, 4} {
		if got, want := p.c.Peer(number), p.m.peer(number); !samePeer(got, want) {
			p.t.Fatalf("behind %s: Peer(%d) = %+v, want %+v", what, number, got, want)
		}
	}
	if got, want := p.c.Watches(), p.m.watchList(); !slices.Equal(got, want) {
		p.t.Fatalf("behind %s: Watches() = %v, want %v", what, got, want)
	}
	if p.c.Session() != p.m.session || p.c.Closed() != p.m.closed {
		p.t.Fatalf("behind %s: Session %d, Closed %v, want %d, %v", what, p.c.Session(), p.c.Closed(), p.m.session, p.m.closed)
	}
}

func (p *pair) hello(tick int, l ...api.Event) {
	p.t.Helper()
	p.c.Hello(tick, l)
	p.m.hello(tick, l)
	p.look("Hello")
}

func (p *pair) block(tick int, good bool, body ...string) {
	p.t.Helper()
	p.c.Block(tick, good, body)
	p.m.answer(tick, good, body)
	p.look("Block")
}

func (p *pair) notify(l ...api.Event) {
	p.t.Helper()
	p.c.Notify(l...)
	p.m.notify(l...)
	p.look("Notify")
}

func (p *pair) output(pane, tick, offset int, data string) {
	p.t.Helper()
	p.c.Output(pane, tick, offset, data)
	p.m.output(pane, tick, offset, data)
	p.look("Output")
}

func (p *pair) late(tick int) []int {
	p.t.Helper()
	got, want := p.c.Late(tick), p.m.late(tick)
	if !slices.Equal(got, want) {
		p.t.Fatalf("Late(%d) = %v, want %v", tick, got, want)
	}
	p.look("Late")
	return got
}

func (p *pair) pause(pane, offset int) {
	p.t.Helper()
	p.c.Pause(pane, offset)
	p.m.pause(pane, offset)
	p.look("Pause")
}

func (p *pair) goOn(pane, offset int) {
	p.t.Helper()
	p.c.Continue(pane, offset)
	p.m.goOn(pane, offset)
	p.look("Continue")
}

func (p *pair) setAge(n int) api.Errno {
	p.t.Helper()
	got, want := p.c.SetAge(n), p.m.setAge(n)
	if got != want {
		p.t.Fatalf("SetAge(%d) = %d, want %d", n, got, want)
	}
	p.look("SetAge")
	return got
}

func (p *pair) watch(name, what, format string) api.Errno {
	p.t.Helper()
	w := api.Watch{Name: name, What: what, Format: format}
	got, want := p.c.Watch(w), p.m.watch(w)
	if got != want {
		p.t.Fatalf("Watch(%q) = %d, want %d", name, got, want)
	}
	p.look("Watch")
	return got
}

func (p *pair) unwatch(name string) {
	p.t.Helper()
	p.c.Unwatch(name)
	p.m.unwatch(name)
	p.look("Unwatch")
}

func (p *pair) tell(name string, l ...api.Event) {
	p.t.Helper()
	p.c.Tell(name, l)
	p.m.tellWatch(name, l)
	p.look("Tell")
}

func (p *pair) goTo(session int, name string) {
	p.t.Helper()
	p.c.Go(session, name)
	p.m.goTo(session, name)
	p.look("Go")
}

func (p *pair) exit(reason string) {
	p.t.Helper()
	p.c.Exit(reason)
	p.m.exit(reason)
	p.look("Exit")
}

func (p *pair) drain(n int) string {
	p.t.Helper()
	got, want := p.c.Drain(n), p.m.drain(n)
	if got != want {
		p.t.Fatalf("Drain(%d) = %q, want %q", n, got, want)
	}
	p.told.WriteString(got)
	p.look("Drain")
	return got
}

func (p *pair) feed(chunk string) []api.Line {
	p.t.Helper()
	got, want := p.c.Feed(chunk), p.m.feed(chunk)
	if !slices.Equal(got, want) {
		p.t.Fatalf("Feed of %d bytes: %d lines, want %d: %.200v, want %.200v", len(chunk), len(got), len(want), got, want)
	}
	p.look("Feed")
	return got
}

// wantDrained holds all that waits against some lines.
func (p *pair) wantDrained(lines ...string) {
	p.t.Helper()
	want := strings.Join(append(lines, ""), "\n")
	if got := p.drain(math.MaxInt); got != want {
		p.t.Fatalf("drained:\n%s\nwant:\n%s", got, want)
	}
}

// filled is a pair whose queue has so many bytes, in lines of notifications.
func filled(t *testing.T, limit, size int) *pair {
	t.Helper()
	p := paired(t, limit)
	for size > 0 {
		n := min(size, 1000)
		if left := size - n; left > 0 && left < 10 {
			n -= 10
		}
		p.notify(message(n))
		size -= n
	}
	return p
}

// message is an event whose line has so many bytes, with its end: at least 10.
func message(bytes int) api.Event {
	return api.Event{Kind: api.EvMessage, Text: strings.Repeat("m", bytes-len("%message \n"))}
}
