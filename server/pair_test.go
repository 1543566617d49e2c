package server

import (
	"fmt"
	"math"
	"slices"
	"strings"
	"testing"

	"mullion/api"
	"mullion/exec"
)

// pair is a server and a model of it: each entry is given to both, and what they answer and tell is held against each other.
type pair struct {
	t    *testing.T
	s    *Server
	m    *model
	seen string // all that the server told of itself when it was looked at last
}

func plain() api.Config { return api.Config{W: 80, H: 24, Tail: 100} }

func made(t *testing.T, c api.Config) *Server {
	t.Helper()
	s, err := New(c)
	if s == nil || err != api.OK {
		t.Fatalf("New(%v): error %d", c, err)
	}
	return s
}

func pairOf(t *testing.T, c api.Config) *pair {
	t.Helper()
	m, err := newModel(c)
	if err != api.OK {
		t.Fatalf("the model's New(%v): error %d", c, err)
	}
	p := &pair{t: t, s: made(t, c), m: m}
	return p.look("New")
}

// begun is a server without sessions and clients.
func begun(t *testing.T) *pair {
	t.Helper()
	return pairOf(t, plain())
}

// working is a server with a client 1, in a session that it has made, and all that it was told is drained.
func working(t *testing.T) *pair {
	t.Helper()
	p := begun(t).attach(1, 1000).input(1, "new -s work")
	p.drain(1, math.MaxInt)
	return p
}

// telling is a text that is the same of things that are the same: nil and the empty list are.
func telling(x any) string { return fmt.Sprintf("%+v", x) }

func panesOf(s api.State) []int {
	var panes []int
	for _, w := range s.Windows {
		for _, c := range w.Cells {
			if c.Kind == api.CellPane {
				panes = append(panes, c.Pane)
			}
		}
	}
	slices.Sort(panes)
	return panes
}

// shown is all that a server tells of itself.
func shown(s *Server) string {
	var b strings.Builder
	now := s.State()
	fmt.Fprintf(&b, "tick %d\n%+v\n", s.Tick(), now)
	for _, pane := range append(panesOf(now), 0, -1, math.MaxInt) {
		from, to, there := s.Extent(pane)
		fmt.Fprintf(&b, "%d: %d to %d %v %q\n", pane, from, to, there, s.Typed(pane))
	}
	fmt.Fprintf(&b, "%+v", s.Peers())
	return b.String()
}

// wanted is what shown is to be.
func (m *model) wanted() string {
	var b strings.Builder
	now := m.st.State()
	fmt.Fprintf(&b, "tick %d\n%+v\n", m.tick, now)
	for _, pane := range append(panesOf(now), 0, -1, math.MaxInt) {
		from, to, there := m.st.Extent(pane)
		typed, _ := m.st.Typed(pane)
		fmt.Fprintf(&b, "%d: %d to %d %v %q\n", pane, from, to, there, typed)
	}
	fmt.Fprintf(&b, "%+v", m.peers())
	return b.String()
}

func (p *pair) look(behind string) *pair {
	p.t.Helper()
	p.seen = shown(p.s)
	if want := p.m.wanted(); p.seen != want {
		p.t.Fatalf("behind %.300s it is\n%s\nand not\n%s", behind, p.seen, want)
	}
	return p
}

// play gives an entry to both, and holds all that can be seen behind it against each other; with an error nothing has changed.
func (p *pair) play(e api.Entry) (string, api.Errno) {
	p.t.Helper()
	was := p.seen
	text, err := p.s.Step(e)
	wantText, wantErr := p.m.step(e)
	if text != wantText || err != wantErr {
		p.t.Fatalf("%.300s answers %q, %d, and not %q, %d", telling(e), text, err, wantText, wantErr)
	}
	if text != "" && (e.Kind != api.InDrain || err != api.OK) {
		p.t.Fatalf("%.300s answers the text %q and the error %d", telling(e), text, err)
	}
	p.look(telling(e))
	if err != api.OK && p.seen != was {
		p.t.Fatalf("%.300s answers the error %d, and has changed\n%s\nto\n%s", telling(e), err, was, p.seen)
	}
	return text, err
}

// step is an entry that is answered so, without a text.
func (p *pair) step(e api.Entry, want api.Errno) *pair {
	p.t.Helper()
	if text, err := p.play(e); err != want || text != "" {
		p.t.Fatalf("%.300s answers %q, %d, and not the error %d", telling(e), text, err, want)
	}
	return p
}

func attaching(client, limit int) api.Entry {
	return api.Entry{Kind: api.InAttach, Client: client, N: limit}
}

func detaching(client int) api.Entry { return api.Entry{Kind: api.InDetach, Client: client} }

func sending(client int, text string) api.Entry {
	return api.Entry{Kind: api.InInput, Client: client, Text: text}
}

func draining(client, n int) api.Entry { return api.Entry{Kind: api.InDrain, Client: client, N: n} }

func writing(pane int, text string) api.Entry {
	return api.Entry{Kind: api.InOutput, Pane: pane, Text: text}
}

func ending(pane int) api.Entry { return api.Entry{Kind: api.InDone, Pane: pane} }

func ticking() api.Entry { return api.Entry{Kind: api.InTick} }

func (p *pair) attach(client, limit int) *pair {
	p.t.Helper()
	return p.step(attaching(client, limit), api.OK)
}

func (p *pair) detach(client int) *pair {
	p.t.Helper()
	return p.step(detaching(client), api.OK)
}

// input sends whole lines.
func (p *pair) input(client int, lines ...string) *pair {
	p.t.Helper()
	return p.send(client, strings.Join(append(lines, ""), "\n"))
}

// send sends bytes.
func (p *pair) send(client int, text string) *pair {
	p.t.Helper()
	return p.step(sending(client, text), api.OK)
}

func (p *pair) output(pane int, text string) *pair {
	p.t.Helper()
	return p.step(writing(pane, text), api.OK)
}

func (p *pair) done(pane int) *pair {
	p.t.Helper()
	return p.step(ending(pane), api.OK)
}

func (p *pair) tick(times int) *pair {
	p.t.Helper()
	for range times {
		p.step(ticking(), api.OK)
	}
	return p
}

func (p *pair) drain(client, n int) string {
	p.t.Helper()
	text, err := p.play(draining(client, n))
	if err != api.OK {
		p.t.Fatalf("drain of %d: error %d", client, err)
	}
	return text
}

// drainAll empties the queues of all clients.
func (p *pair) drainAll() *pair {
	p.t.Helper()
	for _, peer := range p.s.Peers() {
		p.drain(peer.Client, math.MaxInt)
	}
	return p
}

// told drains a client, and holds that against some lines; without lines nothing must have been told.
func (p *pair) told(client int, lines ...string) *pair {
	p.t.Helper()
	if got, want := p.drain(client, math.MaxInt), strings.Join(append(lines, ""), "\n"); got != want {
		p.t.Fatalf("client %d was told\n%s\nand not\n%s", client, got, want)
	}
	return p
}

// fill lets so much wait for a client that it could be told just so many bytes more; they are at most 100.
func (p *pair) fill(client, left int) *pair {
	p.t.Helper()
	room := func(body ...string) int {
		peer := p.peer(client)
		return peer.Limit + api.Spare - left - peer.Size - sizeOf(block(p.s.Tick(), peer.Count+1, true, body...))
	}
	for room() > 8000 {
		p.input(client, "display -p '#{p1000:x}'"+strings.Repeat(" ; display -p '#{p1000:x}'", 3))
	}
	for room("") > 100 {
		p.input(client, "has")
	}
	p.input(client, "display -p '"+strings.Repeat("f", room(""))+"'")
	if peer := p.peer(client); peer.Size != peer.Limit+api.Spare-left || peer.Closed {
		p.t.Fatalf("filled up to %d: %+v", left, peer)
	}
	return p
}

// run is a line of somebody who is no client.
func (p *pair) run(here int, line api.Line) api.Answer {
	p.t.Helper()
	got, want := p.s.Run(here, line), p.m.run(here, line)
	if telling(got) != telling(want) {
		p.t.Fatalf("Run(%d, %.300q) answers %s, and not %s", here, line.Text, telling(got), telling(want))
	}
	p.look("Run of " + line.Text)
	return got
}

// peer is what is seen of a client that is there.
func (p *pair) peer(client int) api.Peer {
	p.t.Helper()
	for _, peer := range p.s.Peers() {
		if peer.Client == client {
			return peer
		}
	}
	p.t.Fatalf("client %d is not there", client)
	return api.Peer{}
}

// there holds the numbers of the clients that are there.
func (p *pair) there(numbers ...int) *pair {
	p.t.Helper()
	var got []int
	for _, peer := range p.s.Peers() {
		got = append(got, peer.Client)
	}
	if !slices.Equal(got, numbers) {
		p.t.Fatalf("the clients %v are there, and not %v", got, numbers)
	}
	return p
}

// plant gives a client a watch that no command would give it.
func (p *pair) plant(client int, w api.Watch) *pair {
	p.t.Helper()
	if err := p.s.clients[client-1].Watch(w); err != api.OK {
		p.t.Fatalf("Watch(%+v): error %d", w, err)
	}
	p.m.guests[client].watch(w)
	p.look("Watch")
	return p
}

// block is the lines of a block.
func block(tick, number int, good bool, body ...string) []string {
	last := map[bool]string{true: "%end", false: "%error"}[good]
	lines := append([]string{fmt.Sprintf("%%begin %d %d 1", tick, number)}, body...)
	return append(lines, fmt.Sprintf("%s %d %d 1", last, tick, number))
}

// failed is the lines of a block that says why its line has failed.
func failed(tick, number int, err api.Errno, about string) []string {
	return block(tick, number, false, escapedBody(exec.Message(err, about)))
}

// lines puts lists and single lines together.
func lines(parts ...any) []string {
	var l []string
	for _, part := range parts {
		switch x := part.(type) {
		case string:
			l = append(l, x)
		case []string:
			l = append(l, x...)
		}
	}
	return l
}

func greeted(tick int) []string {
	return []string{fmt.Sprintf("%%begin %d 0 0", tick), fmt.Sprintf("%%end %d 0 0", tick)}
}
