package mirror

import (
	"fmt"
	"math"
	"strings"
	"sync"
	"testing"

	"mullion/api"
)

// tally gathers counts of runs that go side by side.
type tally struct {
	sync.Mutex
	times map[string]int
}

func (n *tally) add(count map[string]int) {
	n.Lock()
	defer n.Unlock()
	for key, times := range count {
		n.times[key] += times
	}
}

// want asks that each of these was met so often.
func (n *tally) want(t *testing.T, least int, keys ...string) {
	t.Helper()
	for _, key := range keys {
		if n.times[key] < least && !testing.Short() {
			t.Errorf("only %d times in all runs: %s", n.times[key], key)
		}
	}
}

// inRuns makes runs side by side; they have ended when it has.
func inRuns(t *testing.T, runs int, play func(t *testing.T, seed int64) map[string]int) *tally {
	t.Helper()
	if testing.Short() {
		runs /= 10
	}
	all := &tally{times: map[string]int{}}
	t.Run("runs", func(t *testing.T) {
		for seed := range runs {
			t.Run(fmt.Sprint(seed), func(t *testing.T) {
				t.Parallel()
				all.add(play(t, int64(seed)))
			})
		}
	})
	return all
}

// Long runs of entries of a server: no mirror is ever broken (M6), each knows all as soon as its client has taken all (P8, P9), at
// times of calm too (P13), and what was told is a beginning of a word (P3), the events' own text (P4), with a block a line (P5).
func TestM6LongRuns(t *testing.T) {
	met := inRuns(t, 90, func(t *testing.T, seed int64) map[string]int {
		g := newStage(t, seed)
		for i := range 500 {
			if g.d.chance(3) {
				g.d.look()
				g.run(g.d.sessionId(), g.d.line())
			} else {
				g.play(g.d.entry())
			}
			if i%100 == 99 && seed%2 == 0 || i == 499 {
				g.calm()
				g.wantAllReplies()
			}
		}
		for _, s := range g.all() {
			g.wantStory(s)
		}
		return g.count
	})
	met.want(t, 100, "agrees", "a paused pane", "gaps", "replies good true", "replies good false", "messages", "watched",
		"kind 1, error 0", "kind 2, error 0", "kind 3, error 0", "kind 4, error 0", "kind 5, error 0", "kind 6, error 0", "kind 7, error 0")
	met.want(t, 10, "ended: detached", "ended: server exited", "ended: session closed", "ended: too far behind")
}

// Every client takes all behind each entry: so each mirror is held against the server as it is, step by step.
func TestM6StepByStep(t *testing.T) {
	met := inRuns(t, 45, func(t *testing.T, seed int64) map[string]int {
		g := newStage(t, 2000+seed)
		for range 150 {
			g.play(g.d.entry())
			for _, p := range g.s.Peers() {
				g.play(api.Entry{Kind: api.InDrain, Client: p.Client, N: p.Size})
			}
			g.wantAllReplies()
		}
		for _, s := range g.all() {
			g.wantStory(s)
		}
		return g.count
	})
	met.want(t, 1000, "agrees")
	met.want(t, 50, "gaps", "a paused pane")
}

// Byte by byte: a mirror that is fed each byte as it is drained.
func TestM6ByteByByte(t *testing.T) {
	inRuns(t, 9, func(t *testing.T, seed int64) map[string]int {
		g := newStage(t, 4000+seed)
		for range 40 {
			g.play(g.d.entry())
			for _, p := range g.s.Peers() {
				for range min(p.Size, 60) {
					g.play(api.Entry{Kind: api.InDrain, Client: p.Client, N: 1})
				}
			}
		}
		g.calm()
		for _, s := range g.all() {
			g.wantStory(s)
		}
		return g.count
	})
}

// script is a stage on which these entries are played.
func script(t *testing.T, entries ...api.Entry) *stage {
	t.Helper()
	g := newStage(t, 0)
	for _, e := range entries {
		g.play(e)
	}
	return g
}

func attaching(client, limit int) api.Entry {
	return api.Entry{Kind: api.InAttach, Client: client, N: limit}
}

func sending(client int, lines ...string) api.Entry {
	return api.Entry{Kind: api.InInput, Client: client, Text: ended(lines...)}
}

func writing(pane int, text string) api.Entry {
	return api.Entry{Kind: api.InOutput, Pane: pane, Text: text}
}

func draining(client int) api.Entry {
	return api.Entry{Kind: api.InDrain, Client: client, N: math.MaxInt}
}

func ticking() api.Entry { return api.Entry{Kind: api.InTick} }

// The examples of DOC.md, as a mirror finds them.
func TestP8Examples(t *testing.T) {
	g := script(t, attaching(1, 1000), sending(1, "new -s work"), sending(1, "splitw -h", "lsp"), draining(1))
	m := g.seats[1].m
	want := greetedState()
	if got := plainState(m.State()); !same(got, want) || m.Session() != 1 {
		t.Errorf("the state is %+v, the session %d", got, m.Session())
	}
	if r := m.Replies(); len(r) != 4 || !same(r[3], api.Reply{Number: 3, Flag: 1, Good: true, Body: []string{"0: [40x24] %1", "1: [39x24] %2 (active)"}}) {
		t.Errorf("the replies are %+v", r)
	}
	g.play(sending(1, "renamew x ; killp -t %9 ; renamew y"))
	g.play(draining(1))
	if r := m.Replies(); len(r) != 5 || r[4].Good || !same(r[4].Body, []string{"not found: %9"}) || m.State().Windows[0].Name != "x" {
		t.Errorf("the replies are %+v, the state %+v", r, m.State())
	}
	g.play(sending(1, "kill-server"))
	g.play(draining(1))
	if reason, is := m.Ended(); !is || reason != "server exited" || len(m.Feeds()) != 0 || m.Session() != 1 {
		t.Errorf("ended %q, %v; the feeds are %+v, the session %d", reason, is, m.Feeds(), m.Session())
	}
}

// A client that was attached later begins at each pane's end.
func TestP9WhereAPaneBegins(t *testing.T) {
	g := script(t, attaching(1, 1000), sending(1, "new -s work", "splitw"), writing(1, "hello"), attaching(2, 1000), writing(1, "more"), writing(2, "x"), draining(1), draining(2))
	for number, want := range map[int][]api.Feed{
		1: {{Pane: 1, End: 9, Text: "hellomore"}, {Pane: 2, End: 1, Text: "x"}},
		2: {{Pane: 1, Start: 5, End: 9, Text: "more"}, {Pane: 2, End: 1, Text: "x"}},
	} {
		if got := ask(g.seats[number].m).feeds; !same(got, want) {
			t.Errorf("client %d: %+v, and not %+v", number, got, want)
		}
	}
}

// A limit that the second output does not fit within: the pane pauses, and goes on with a gap.
func TestP9Gaps(t *testing.T) {
	g := script(t, attaching(1, 30), sending(1, "new -s w"), draining(1), writing(1, "hello"), writing(1, "lost"), draining(1))
	m := g.seats[1].m
	feed := func() api.Feed { return ask(m).feeds[0] }
	if got := feed(); !same(got, api.Feed{Pane: 1, End: 5, Text: "hello", Paused: true}) {
		t.Errorf("paused: %+v", got)
	}
	for _, e := range []api.Entry{sending(1, "refresh -A %1:continue"), writing(1, "z"), draining(1)} {
		g.play(e)
	}
	if got := feed(); !same(got, api.Feed{Pane: 1, End: 9, Text: "hello", Gaps: []api.Gap{{From: 5, To: 9}}, Paused: true}) {
		t.Errorf("paused anew: %+v", got)
	}
	for _, e := range []api.Entry{sending(1, "refresh -A %1:continue"), draining(1), writing(1, "y"), draining(1)} {
		g.play(e)
	}
	if got := feed(); !same(got, api.Feed{Pane: 1, End: 11, Text: "helloy", Gaps: []api.Gap{{From: 5, To: 10}}}) {
		t.Errorf("going on: %+v", got)
	}
}

// A client that was never paused has no gaps.
func TestP9NeverPaused(t *testing.T) {
	g := script(t, attaching(1, api.MaxLimit), sending(1, "new"))
	for range 200 {
		g.play(writing(1, g.d.bytes()))
		g.play(draining(1))
	}
	if f := ask(g.seats[1].m).feeds; len(f) != 1 || f[0].Gaps != nil || f[0].Paused || f[0].Text != g.written[1] {
		t.Errorf("the feeds are %+v", f)
	}
}

// Behind a tick and drains there is calm, whatever waits, is watched or is late.
func TestP13Calm(t *testing.T) {
	g := script(t, attaching(1, 500), attaching(2, 0), attaching(3, 200), sending(1, "new -s w", "splitw", "refresh -f pause-after=1", "refresh -B w:%*:'#{pane_bytes}'", "refresh -B t::'#{pane_bytes}'"),
		writing(1, "abc"), writing(2, strings.Repeat("x", 300)), ticking(), ticking(), writing(1, "late"), sending(3, "switchc -t w"))
	g.calm()
	if len(g.seats) != 3 {
		t.Fatalf("%d clients are there", len(g.seats))
	}
	g.play(writing(1, "again"))
	g.calm()
}

// A client that falls too far behind is closed: its mirror is not broken, and has ended.
func TestM6TooFarBehind(t *testing.T) {
	g := script(t, attaching(1, 0), sending(1, "new -s w"))
	for range 9 {
		g.play(sending(1, strings.Repeat("display -p '#{p1000:x}' ; ", 7)+"has"))
	}
	g.play(draining(1))
	if len(g.gone) != 1 {
		t.Fatalf("%d clients have gone", len(g.gone))
	}
	if reason, is := g.gone[0].m.Ended(); !is || reason != "too far behind" {
		t.Errorf("ended: %q, %v", reason, is)
	}
	g.wantStory(g.gone[0])
}
