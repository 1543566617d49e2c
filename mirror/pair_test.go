package mirror

import (
	"fmt"
	"reflect"
	"slices"
	"strings"
	"testing"

	"mullion/api"
)

// answers are what a mirror answers to all its questions.
type answers struct {
	state    api.State
	session  int
	feeds    []api.Feed
	replies  []api.Reply
	messages []string
	watched  []api.Event
	reason   string
	ended    bool
	number   int
	broken   bool
	rest     string
}

// ask asks all questions.
func ask(m *Mirror) answers {
	a := answers{
		state: m.State(), session: m.Session(), feeds: m.Feeds(), replies: m.Replies(),
		messages: m.Messages(), watched: m.Watched(), rest: m.Rest(),
	}
	a.reason, a.ended = m.Ended()
	a.number, a.broken = m.Broken()
	return a.plain()
}

func orNil[T any](l []T) []T {
	if len(l) == 0 {
		return nil
	}
	return l
}

// plainState has nil in the place of each empty list.
func plainState(s api.State) api.State {
	s.Sessions, s.Windows = orNil(s.Sessions), orNil(s.Windows)
	for i := range s.Sessions {
		s.Sessions[i].Links = orNil(s.Sessions[i].Links)
	}
	for i := range s.Windows {
		s.Windows[i].Cells = orNil(s.Windows[i].Cells)
	}
	return s
}

// plain is the same with nil in the place of each empty list: these are the same everywhere.
func (a answers) plain() answers {
	a.state = plainState(a.state)
	a.feeds, a.replies, a.messages, a.watched = orNil(a.feeds), orNil(a.replies), orNil(a.messages), orNil(a.watched)
	for i := range a.feeds {
		a.feeds[i].Gaps = orNil(a.feeds[i].Gaps)
	}
	for i := range a.replies {
		a.replies[i].Body = orNil(a.replies[i].Body)
	}
	return a
}

func same(a, b any) bool { return reflect.DeepEqual(a, b) }

// short is the beginning of a text, for telling it.
func short(text string) string {
	if len(text) > 1500 {
		return fmt.Sprintf("%q and %d bytes", text[:1500], len(text)-1500)
	}
	return fmt.Sprintf("%q", text)
}

// pair is a mirror and the tests' own one: what is fed goes to both, and what they answer is held against each other.
type pair struct {
	t *testing.T
	m *Mirror
	b book
}

func begun(t *testing.T) *pair {
	t.Helper()
	return (&pair{t: t, m: New()}).look()
}

func (p *pair) look() *pair {
	p.t.Helper()
	got, want := ask(p.m), p.b.read()
	if !same(got, want) {
		p.t.Fatalf("behind %s it answers\n%+v\nand not\n%+v", short(p.b.all), got, want)
	}
	wantFilled(p.t, got.feeds)
	return p
}

// feed feeds bytes.
func (p *pair) feed(texts ...string) *pair {
	p.t.Helper()
	for _, text := range texts {
		p.m.Feed(text)
		p.b.all += text
		p.look()
	}
	return p
}

// tell feeds whole lines.
func (p *pair) tell(lines ...string) *pair {
	p.t.Helper()
	return p.feed(ended(lines...))
}

// ended is lines, each with its end.
func ended(lines ...string) string {
	if len(lines) == 0 {
		return ""
	}
	return strings.Join(lines, "\n") + "\n"
}

func (p *pair) count() int { return strings.Count(p.b.all, "\n") }

// follows feeds lines, none of which may break it.
func (p *pair) follows(lines ...string) *pair {
	p.t.Helper()
	for _, line := range lines {
		p.tell(line)
		if n, broken := p.m.Broken(); broken || n != 0 {
			p.t.Fatalf("%s breaks it: Broken is %d, %v; all was %s", short(line), n, broken, short(p.b.all))
		}
	}
	return p
}

// breaks feeds a line, or the end of one, that must break it, and have no effect beside.
func (p *pair) breaks(line string) *pair {
	p.t.Helper()
	want := ask(p.m)
	want.number, want.broken, want.rest = p.count()+1, true, ""
	p.tell(line)
	if got := ask(p.m); !same(got, want) {
		p.t.Fatalf("behind %s it answers\n%+v\nand not\n%+v", short(p.b.all), got, want)
	}
	return p
}

// twin is a pair of its own that was fed the same.
func (p *pair) twin() *pair {
	p.t.Helper()
	return begun(p.t).feed(p.b.all)
}

// feeds holds the feeds against some.
func (p *pair) feeds(want ...api.Feed) *pair {
	p.t.Helper()
	if got := ask(p.m).feeds; !same(got, orNil(want)) {
		p.t.Fatalf("behind %s the feeds are\n%+v\nand not\n%+v", short(p.b.all), got, want)
	}
	return p
}

// replies holds the replies against some.
func (p *pair) replies(want ...api.Reply) *pair {
	p.t.Helper()
	if got := ask(p.m).replies; !same(got, orNil(want)) {
		p.t.Fatalf("behind %s the replies are\n%+v\nand not\n%+v", short(p.b.all), got, want)
	}
	return p
}

// state holds the state against one.
func (p *pair) state(want api.State) *pair {
	p.t.Helper()
	if got := ask(p.m).state; !same(got, plainState(want)) {
		p.t.Fatalf("behind %s the state is\n%+v\nand not\n%+v", short(p.b.all), got, want)
	}
	return p
}

// rest holds the rest against one.
func (p *pair) rest(want string) *pair {
	p.t.Helper()
	if got := p.m.Rest(); got != want {
		p.t.Fatalf("behind %s the rest is %s, and not %s", short(p.b.all), short(got), short(want))
	}
	return p
}

// wantFilled is M8: bytes and gaps fill a feed, and its gaps rise within it, and don't touch.
func wantFilled(t *testing.T, feeds []api.Feed) {
	t.Helper()
	for _, f := range feeds {
		size, least := len(f.Text), f.Start
		for i, g := range f.Gaps {
			size += g.To - g.From
			if g.From < least || i > 0 && g.From == least || g.To <= g.From || g.To > f.End {
				t.Fatalf("the gap %d lies wrongly: %+v", i, f)
			}
			least = g.To
		}
		if size != f.End-f.Start {
			t.Fatalf("bytes and gaps have %d bytes: %+v", size, f)
		}
	}
	if !slices.IsSortedFunc(feeds, func(a, b api.Feed) int { return a.Pane - b.Pane }) {
		t.Fatalf("the feeds do not rise: %+v", feeds)
	}
}

// The lines of a greeting of a server with one session, one window in it and two panes.
func greeting() []string {
	return []string{
		"%begin 3 0 0", "%end 3 0 0", "%pane-add %1 7", "%pane-add %2 0", "%window-add @1 sh",
		"%layout-change @1 " + rowPlan + " " + rowPlan + " -", "%window-pane-changed @1 %2",
		"%session-add $1 work", "%window-link $1 0 @1", "%session-window-changed $1 0", "%session-changed $1 work",
	}
}

const (
	onePlan = "b25e,80x24,0,0,1"
	twoPlan = "b25f,80x24,0,0,2"
	rowPlan = "020a,80x24,0,0{40x24,0,0,1,39x24,41,0,2}"
)

// greeted is a pair that was fed that greeting.
func greeted(t *testing.T) *pair {
	t.Helper()
	return begun(t).follows(greeting()...)
}

// greetedState is the state behind it.
func greetedState() api.State {
	return api.State{
		Sessions: []api.Session{{Id: 1, Name: "work", Links: []api.Link{{Index: 0, Window: 1}}, Current: 0, Last: -1}},
		Windows: []api.Window{{Id: 1, Name: "sh", Active: 2, Cells: []api.Cell{
			{Kind: api.CellRow, W: 80, H: 24},
			{Depth: 1, Kind: api.CellPane, W: 40, H: 24, Pane: 1},
			{Depth: 1, Kind: api.CellPane, X: 41, W: 39, H: 24, Pane: 2},
		}}},
	}
}
