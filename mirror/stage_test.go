package mirror

import (
	"fmt"
	"regexp"
	"slices"
	"strconv"
	"strings"
	"testing"

	"mullion/api"
	"mullion/delta"
	"mullion/server"
	"mullion/wire"
)

func panesOf(s api.State) []int {
	var panes []int
	for _, w := range s.Windows {
		for _, c := range w.Cells {
			if c.Kind == api.CellPane {
				panes = append(panes, c.Pane)
			}
		}
	}
	slices.Sort(panes)
	return panes
}

// seat is a client from its attaching on, with a mirror that is fed all that is drained to it.
type seat struct {
	number int
	m      *Mirror
	told   strings.Builder
	ticks  []int       // of its attaching, and at which each of its lines was complete
	began  map[int]int // the offset at which each pane began for it
}

// stage is a server with a mirror beside each client.
type stage struct {
	t       *testing.T
	s       *server.Server
	d       *dealer
	seats   map[int]*seat
	gone    []*seat
	written map[int]string // all that was ever written into each pane
	count   map[string]int // how often each outcome was met
}

func newStage(t *testing.T, seed int64) *stage {
	t.Helper()
	configs := []api.Config{{W: 80, H: 24, Tail: 100}, {W: 200, H: 200, Tail: 1000}, {W: 30, H: 12, Tail: 1}}
	s, err := server.New(configs[seed%3])
	if err != api.OK {
		t.Fatalf("server.New: error %d", err)
	}
	return &stage{t: t, s: s, d: newDealer(seed, s), seats: map[int]*seat{}, written: map[int]string{}, count: map[string]int{}}
}

// play plays an entry, and holds what the mirrors know behind it against what is.
func (g *stage) play(e api.Entry) {
	g.t.Helper()
	ends := g.ends()
	text, err := g.s.Step(e)
	g.count[fmt.Sprintf("kind %d, error %d", e.Kind, err)]++
	if err == api.OK {
		g.note(e, text, ends)
	}
	g.settle()
}

// run is a line of somebody who is no client.
func (g *stage) run(here int, line string) {
	g.t.Helper()
	g.s.Run(here, api.Line{Text: line})
	g.settle()
}

// ends is where the bytes of each pane end.
func (g *stage) ends() map[int]int {
	ends := map[int]int{}
	for _, pane := range panesOf(g.s.State()) {
		_, ends[pane], _ = g.s.Extent(pane)
	}
	return ends
}

// note notes what an entry was for the clients' stories.
func (g *stage) note(e api.Entry, text string, ends map[int]int) {
	s := g.seats[e.Client]
	switch e.Kind {
	case api.InAttach:
		g.seats[e.Client] = &seat{number: e.Client, m: New(), ticks: []int{g.s.Tick()}, began: ends}
	case api.InInput:
		for range strings.Count(e.Text, "\n") {
			s.ticks = append(s.ticks, g.s.Tick())
		}
	case api.InDrain:
		s.told.WriteString(text)
		s.m.Feed(text)
	case api.InOutput:
		g.written[e.Pane] += e.Text
	}
}

// settle looks at every mirror, and lets go of the seats of clients that have gone.
func (g *stage) settle() {
	g.t.Helper()
	peers := g.s.Peers()
	now := plainState(delta.Plain(g.s.State()))
	for number, s := range g.seats {
		if n, broken := s.m.Broken(); broken {
			g.t.Fatalf("client %d: the line %d breaks its mirror: %s", number, n, strings.Split(s.told.String(), "\n")[n-1])
		}
		at := slices.IndexFunc(peers, func(p api.Peer) bool { return p.Client == number })
		switch {
		case at < 0:
			g.gone = append(g.gone, s)
			delete(g.seats, number)
		case !peers[at].Closed && peers[at].Size == 0:
			g.agree(s, peers[at], now)
		}
	}
}

// agree is P8 and P9, of a client that is not closed and has taken all.
func (g *stage) agree(s *seat, p api.Peer, now api.State) {
	g.t.Helper()
	g.count["agrees"]++
	if got := plainState(s.m.State()); !same(got, now) {
		g.t.Fatalf("client %d knows\n%+v\nand not\n%+v", s.number, got, now)
	}
	if got := s.m.Session(); got != p.Session {
		g.t.Fatalf("client %d is in %d, and its mirror in %d", s.number, p.Session, got)
	}
	if reason, ended := s.m.Ended(); ended || s.m.Rest() != "" {
		g.t.Fatalf("client %d has ended: %q, or has a rest: %q", s.number, reason, s.m.Rest())
	}
	feeds, halts := s.m.Feeds(), haltsOf(s.told.String())
	var panes []int
	for _, f := range feeds {
		panes = append(panes, f.Pane)
		g.agreeOnBytes(s, f, slices.Contains(p.Paused, f.Pane), halts[f.Pane])
	}
	if want := panesOf(now); !slices.Equal(panes, want) {
		g.t.Fatalf("client %d knows the panes %v, and not %v", s.number, panes, want)
	}
	wantFilled(g.t, feeds)
}

// halt is a pause, and the going-on behind it; below 0: there was none.
type halt struct{ from, to int }

var haltLine = regexp.MustCompile(`(?m)^%(pause|continue) %(\d+) (\d+)$`)

// haltsOf reads the pauses of each pane from the lines alone.
func haltsOf(told string) map[int][]halt {
	halts := map[int][]halt{}
	for _, found := range haltLine.FindAllStringSubmatch(told, -1) {
		pane, _ := strconv.Atoi(found[2])
		offset, _ := strconv.Atoi(found[3])
		if found[1] == "pause" {
			halts[pane] = append(halts[pane], halt{offset, -1})
		} else {
			halts[pane][len(halts[pane])-1].to = offset
		}
	}
	return halts
}

// gapsOf are the gaps that come of pauses: between each one and the going-on behind it, if something was written there.
func gapsOf(halts []halt) []api.Gap {
	var gaps []api.Gap
	for _, h := range halts {
		last := len(gaps) - 1
		switch {
		case h.to < 0 || h.to == h.from:
		case last >= 0 && gaps[last].To == h.from:
			gaps[last].To = h.to
		default:
			gaps = append(gaps, api.Gap{From: h.from, To: h.to})
		}
	}
	return gaps
}

// agreeOnBytes is P9 of one pane.
func (g *stage) agreeOnBytes(s *seat, f api.Feed, paused bool, halts []halt) {
	g.t.Helper()
	_, end, there := g.s.Extent(f.Pane)
	if want := s.began[f.Pane]; f.Start != want || !there {
		g.t.Fatalf("client %d: pane %d began at %d, and not at %d", s.number, f.Pane, f.Start, want)
	}
	if paused {
		end = halts[len(halts)-1].from
		g.count["a paused pane"]++
	}
	if f.End != end || f.Paused != paused {
		g.t.Fatalf("client %d knows of pane %d: %+v, and not paused %v, up to %d", s.number, f.Pane, f, paused, end)
	}
	gaps := gapsOf(halts)
	if !slices.Equal(f.Gaps, gaps) {
		g.t.Fatalf("client %d knows of pane %d the gaps %v, and not %v", s.number, f.Pane, f.Gaps, gaps)
	}
	if want := without(g.written[f.Pane], f.Start, end, gaps); f.Text != want {
		g.t.Fatalf("client %d has had of pane %d %q, and not %q", s.number, f.Pane, f.Text, want)
	}
	if len(gaps) > 0 {
		g.count["gaps"]++
	}
}

// without is a stretch of a text without some gaps.
func without(text string, from, to int, gaps []api.Gap) string {
	var b strings.Builder
	for _, gap := range gaps {
		b.WriteString(text[from:gap.From])
		from = gap.To
	}
	b.WriteString(text[from:to])
	return b.String()
}

// all are the seats of all clients, those that have gone first.
func (g *stage) all() []*seat {
	l := slices.Clone(g.gone)
	for number := 1; number <= api.MaxClients; number++ {
		if s := g.seats[number]; s != nil {
			l = append(l, s)
		}
	}
	return l
}

// wantStory is P3 to P5 of what was told to a client, and M5 and M7 of its mirror.
func (g *stage) wantStory(s *seat) {
	g.t.Helper()
	told := s.told.String()
	if begins, _ := wire.Word(told); !begins {
		g.t.Fatalf("client %d was told no beginning of a word: %s", s.number, short(told))
	}
	events, rest := wire.Events(told)
	if text, err := wire.Text(events); err != api.OK || text+rest != told {
		g.t.Fatalf("client %d was told what is no events: %s, error %d", s.number, short(told), err)
	}
	if want := (book{told}).read(); !same(ask(s.m), want) {
		g.t.Fatalf("client %d knows\n%+v\nand not\n%+v", s.number, ask(s.m), want)
	}
	for i, r := range s.m.Replies() {
		flag := min(i, 1)
		if i >= len(s.ticks) || r.Number != i || r.Flag != flag || r.Tick != s.ticks[i] || i == 0 && (!r.Good || len(r.Body) > 0) {
			g.t.Fatalf("client %d: the reply %d is %+v; its lines were complete at %v", s.number, i, r, s.ticks)
		}
		g.count[fmt.Sprintf("replies good %v", r.Good)]++
	}
	g.count["messages"] += len(s.m.Messages())
	g.count["watched"] += len(s.m.Watched())
	if reason, ended := s.m.Ended(); ended {
		g.count["ended: "+reason]++
	}
}

// wantAllReplies is P5 of the clients that are there and not closed, and have taken all.
func (g *stage) wantAllReplies() {
	g.t.Helper()
	for _, p := range g.s.Peers() {
		if s := g.seats[p.Client]; !p.Closed && p.Size == 0 && (len(s.m.Replies()) != len(s.ticks) || p.Count != len(s.ticks)-1) {
			g.t.Fatalf("client %d has sent %d lines, and knows %d replies", p.Client, len(s.ticks)-1, len(s.m.Replies()))
		}
	}
}

// gaps are all that the mirrors know of gaps.
func (g *stage) gaps() string {
	var b strings.Builder
	for _, s := range g.all() {
		for _, f := range s.m.Feeds() {
			fmt.Fprintln(&b, s.number, f.Pane, f.Gaps)
		}
	}
	return b.String()
}

// calm is P13: only ticks and drains come.
func (g *stage) calm() {
	g.t.Helper()
	g.play(api.Entry{Kind: api.InTick})
	for _, p := range g.s.Peers() {
		g.play(api.Entry{Kind: api.InDrain, Client: p.Client, N: p.Size})
	}
	gaps := g.gaps()
	for range 3 {
		for _, p := range g.s.Peers() {
			if p.Size != 0 || p.Closed {
				g.t.Fatalf("behind a tick and drains: %+v", p)
			}
		}
		met := g.count["agrees"]
		g.settle()
		if g.count["agrees"] != met+len(g.s.Peers()) || g.gaps() != gaps {
			g.t.Fatalf("behind a tick and drains the gaps are\n%s\nand not\n%s", g.gaps(), gaps)
		}
		g.play(api.Entry{Kind: api.InTick})
	}
}
