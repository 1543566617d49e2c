package server

import (
	"fmt"
	"slices"
	"strings"
	"testing"

	"mullion/api"
	"mullion/delta"
	"mullion/wire"
)

// feed is a pane as a client has heard of it: stretches of its bytes, each from an offset on.
type feed struct {
	end    int
	paused bool
	pieces map[int]string
}

// listener is the tests' own mirror: what a client can know from the lines that were drained to it.
type listener struct {
	rest    string
	state   api.State
	session int
	feeds   map[int]*feed
	gaps    int
	ended   bool
}

func (l *listener) hear(text string) error {
	events, rest := wire.Events(l.rest + text)
	l.rest = rest
	for _, e := range events {
		if err := l.take(e); err != nil {
			return fmt.Errorf("%+v: %w", e, err)
		}
	}
	return nil
}

func (l *listener) take(e api.Event) error {
	f := l.feeds[e.Pane]
	switch e.Kind {
	case api.EvBegin, api.EvEnd, api.EvError, api.EvBody, api.EvWatch, api.EvMessage:
		return nil
	case api.EvExit:
		l.ended = true
		return nil
	case api.EvSession:
		l.session = e.Session
		return nil
	case api.EvOutput, api.EvPause, api.EvContinue:
		if f == nil || f.paused != (e.Kind == api.EvContinue) {
			return fmt.Errorf("it can't follow here: %+v", f)
		}
		return l.takeBytes(f, e)
	case api.EvPaneAdd:
		if f != nil {
			return fmt.Errorf("there is such a pane")
		}
		l.feeds[e.Pane] = &feed{end: e.Offset, pieces: map[int]string{}}
	case api.EvPaneClose:
		delete(l.feeds, e.Pane)
	}
	now, err := delta.Apply(l.state, e)
	if err != api.OK {
		return fmt.Errorf("Apply: error %d", err)
	}
	l.state = now
	return nil
}

func (l *listener) takeBytes(f *feed, e api.Event) error {
	if e.Kind == api.EvOutput {
		f.pieces[f.end] = e.Text
		f.end += len(e.Text)
		return nil
	}
	if e.Offset < f.end {
		return fmt.Errorf("bytes that it has had: %+v", f)
	}
	if e.Offset > f.end {
		l.gaps++
	}
	f.end, f.paused = e.Offset, e.Kind == api.EvPause
	return nil
}

// story is what one client has sent and was told, from its attaching on.
type story struct {
	number int
	sent   strings.Builder
	ticks  []int // at which each of its lines was complete
	told   strings.Builder
	heard  listener
	due    []string // the lines of all differences since it was attached
	closed bool
}

// run is a pair to which a dealer gives entries, with a story for each client.
type run struct {
	*pair
	d        *dealer
	single   bool // no entry completes more than one line
	stories  map[int]*story
	ended    []*story // of the clients that have gone
	entries  []api.Entry
	written  map[int][]byte // all that was ever written into each pane
	greatest map[string]int // the greatest id of each kind
	count    map[string]int // how often each outcome was met
}

func newRun(t *testing.T, seed int64) *run {
	configs := []api.Config{{W: 80, H: 24, Tail: 100}, {W: 200, H: 200, Tail: 1000}, {W: 30, H: 12, Tail: 1}}
	p := pairOf(t, configs[seed%3])
	return &run{pair: p, d: newDealer(seed, p.s), stories: map[int]*story{}, written: map[int][]byte{}, greatest: map[string]int{}, count: map[string]int{}}
}

// oneLine cuts a text behind the first line that it completes.
func oneLine(text string) string {
	line, _, ended := strings.Cut(text, "\n")
	if ended {
		return line + "\n"
	}
	return text
}

func (r *run) step() {
	e := r.d.entry()
	if r.single && e.Kind == api.InInput {
		e.Text = oneLine(e.Text)
	}
	r.give(e)
}

// give plays an entry, and holds what can be seen behind it against what always holds.
func (r *run) give(e api.Entry) {
	r.t.Helper()
	r.entries = append(r.entries, e)
	peers, was := r.s.Peers(), r.s.State()
	text, err := r.play(e)
	r.count[fmt.Sprint(e.Kind, " answers ", err)]++
	now := r.s.State()
	if err == api.OK {
		r.tellStories(e, text)
		if diff, _ := delta.Diff(was, now); len(diff) > 0 {
			r.differs(diff)
		}
	}
	r.wantBounds(e, peers)
	r.wantNewIds(was, now)
	for number, s := range r.stories {
		at := slices.IndexFunc(r.s.Peers(), func(p api.Peer) bool { return p.Client == number })
		if at < 0 {
			r.ended = append(r.ended, s)
			delete(r.stories, number)
		} else {
			s.closed = r.s.Peers()[at].Closed
		}
	}
	r.note(peers)
}

func (r *run) tellStories(e api.Entry, text string) {
	s := r.stories[e.Client]
	switch e.Kind {
	case api.InAttach:
		r.stories[e.Client] = &story{number: e.Client, heard: listener{feeds: map[int]*feed{}}}
	case api.InInput:
		s.sent.WriteString(e.Text)
		for range strings.Count(e.Text, "\n") {
			s.ticks = append(s.ticks, r.s.Tick())
		}
	case api.InDrain:
		s.told.WriteString(text)
		if err := s.heard.hear(text); err != nil {
			r.t.Fatalf("client %d is told %v", e.Client, err)
		}
	case api.InOutput:
		r.written[e.Pane] = append(r.written[e.Pane], e.Text...)
	}
}

func (r *run) differs(diff []api.Event) {
	for _, s := range r.stories {
		for _, e := range diff {
			if !s.closed {
				s.due = append(s.due, lineOf(e))
			}
		}
	}
}

// note counts by what clients were closed and panes paused.
func (r *run) note(was []api.Peer) {
	for _, now := range r.s.Peers() {
		at := slices.IndexFunc(was, func(p api.Peer) bool { return p.Client == now.Client })
		if at < 0 {
			continue
		}
		kind := r.entries[len(r.entries)-1].Kind
		if now.Closed && !was[at].Closed {
			all := strings.TrimSuffix(string(r.m.guests[now.Client].all), "\n")
			r.count[fmt.Sprint("closed by ", kind, ": ", all[strings.LastIndexByte(all, '\n')+1:])]++
		}
		if len(now.Paused) > len(was[at].Paused) {
			r.count[fmt.Sprint("paused by ", kind)]++
		}
		if len(now.Paused) < len(was[at].Paused) {
			r.count[fmt.Sprint("goes on by ", kind)]++
		}
		if kind == api.InTick && now.Size > was[at].Size {
			r.count["told by a tick"]++
		}
	}
}

// wantBounds is P10.
func (r *run) wantBounds(e api.Entry, was []api.Peer) {
	r.t.Helper()
	now := r.s.State()
	links := 0
	for _, x := range now.Sessions {
		links += len(x.Links)
	}
	panes := panesOf(now)
	if len(now.Sessions) > 8 || len(now.Windows) > 16 || len(panes) > 32 || links > 32 || !delta.Valid(now) {
		r.t.Fatalf("behind %s: %+v", telling(e), now)
	}
	for _, pane := range panes {
		from, to, _ := r.s.Extent(pane)
		if tail := r.m.st.Config().Tail; to-from > tail || len(r.s.Typed(pane)) > tail {
			r.t.Fatalf("pane %d keeps %d to %d, and %q", pane, from, to, r.s.Typed(pane))
		}
	}
	for _, p := range r.s.Peers() {
		if p.Size > p.Limit+api.Spare+32 || len(p.Watches) > 8 || p.Age > 1000 || p.Client < 1 || p.Client > 4 {
			r.t.Fatalf("behind %s: %+v", telling(e), p)
		}
		ahead := slices.IndexFunc(was, func(x api.Peer) bool { return x.Client == p.Client })
		told := e.Kind == api.InOutput && ahead >= 0 && p.Size > was[ahead].Size && len(p.Paused) == len(was[ahead].Paused) && !p.Closed
		if told && p.Size > p.Limit {
			r.t.Fatalf("output has joined a queue: %+v", p)
		}
	}
}

// wantNewIds is P14.
func (r *run) wantNewIds(was, now api.State) {
	r.t.Helper()
	ids := func(s api.State) map[string][]int {
		l := map[string][]int{"pane": panesOf(s)}
		for _, x := range s.Sessions {
			l["session"] = append(l["session"], x.Id)
		}
		for _, w := range s.Windows {
			l["window"] = append(l["window"], w.Id)
		}
		return l
	}
	ahead := ids(was)
	for kind, l := range ids(now) {
		for _, id := range l {
			if !slices.Contains(ahead[kind], id) && id <= r.greatest[kind] {
				r.t.Fatalf("%s %d is new, and %d was there", kind, id, r.greatest[kind])
			}
		}
		r.greatest[kind] = max(r.greatest[kind], slices.Max(append(l, 0)))
	}
}

// calm is P13: only ticks and drains come.
func (r *run) calm() {
	r.t.Helper()
	r.give(ticking())
	for _, p := range r.s.Peers() {
		r.give(draining(p.Client, p.Size))
	}
	gaps := map[int]int{}
	for number, s := range r.stories {
		gaps[number] = s.heard.gaps
	}
	for range 4 {
		for _, p := range r.s.Peers() {
			if p.Size != 0 || p.Closed {
				r.t.Fatalf("behind a tick and drains: %+v", p)
			}
		}
		r.agree(gaps)
		r.give(ticking())
	}
}

// agree is P8 and P9: what each client that has taken all knows, is.
func (r *run) agree(gaps map[int]int) {
	r.t.Helper()
	now := delta.Plain(r.s.State())
	for _, p := range r.s.Peers() {
		s := r.stories[p.Client]
		h := s.heard
		if telling(h.state) != telling(now) || h.session != p.Session || h.rest != "" || h.ended || h.gaps != gaps[p.Client] || len(h.feeds) != len(panesOf(now)) {
			r.t.Fatalf("client %d knows\n%+v\nand not\n%+v", p.Client, h, now)
		}
		for pane, f := range h.feeds {
			_, end, there := r.s.Extent(pane)
			if !there || f.end > end || f.paused != slices.Contains(p.Paused, pane) || !f.paused && f.end != end {
				r.t.Fatalf("client %d knows of pane %d: %+v, and it ends at %d", p.Client, pane, f, end)
			}
			for from, piece := range f.pieces {
				if string(r.written[pane][from:from+len(piece)]) != piece {
					r.t.Fatalf("client %d has heard of pane %d, from %d on: %q", p.Client, pane, from, piece)
				}
			}
		}
	}
}

// all are the stories of all clients, those that have gone first.
func (r *run) all() []*story {
	l := slices.Clone(r.ended)
	for number := 1; number <= 4; number++ {
		if s := r.stories[number]; s != nil {
			l = append(l, s)
		}
	}
	return l
}
