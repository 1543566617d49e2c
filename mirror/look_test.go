package mirror

import (
	"fmt"
	"strings"
	"testing"

	"mullion/api"
)

// Feeds are told by rising pane, in whatever order the panes were added.
func TestM4FeedsRise(t *testing.T) {
	p := begun(t)
	for _, pane := range []int{12, 3, 9, 1, 100, 2, 10, 33, 4} {
		p.follows(fmt.Sprintf("%%pane-add %%%d %d", pane, pane), fmt.Sprintf("%%output %%%d x%d", pane, pane))
	}
	p.follows("%pane-close %9", "%pane-close %1", "%pane-close %100")
	var want []api.Feed
	for _, pane := range []int{2, 3, 4, 10, 12, 33} {
		text := fmt.Sprint("x", pane)
		want = append(want, api.Feed{Pane: pane, Start: pane, End: pane + len(text), Text: text})
	}
	p.feeds(want...)
}

// Replies, messages and subscription events are told in the order in which they came, whatever came between.
func TestM4InOrder(t *testing.T) {
	p := greeted(t)
	for i := 9; i > 0; i-- {
		p.follows(fmt.Sprintf("%%message m%d", i), fmt.Sprintf("%%begin %d %d 1", i, i), fmt.Sprint("b", i), fmt.Sprintf("%%end %d %d 1", i, i))
		p.follows(fmt.Sprintf("%%subscription-changed n%d $1 @1 0 %%1 : v%d", i, i), "%output %2 z")
	}
	replies, messages, watched := p.m.Replies(), p.m.Messages(), p.m.Watched()
	if len(replies) != 10 || len(messages) != 9 || len(watched) != 9 {
		t.Fatalf("%d replies, %d messages, %d subscription events", len(replies), len(messages), len(watched))
	}
	for i := range 9 {
		n := 9 - i
		if r := replies[i+1]; r.Number != n || r.Tick != n || r.Body[0] != fmt.Sprint("b", n) {
			t.Errorf("the reply %d is %+v", i+1, r)
		}
		if messages[i] != fmt.Sprint("m", n) {
			t.Errorf("the message %d is %q", i, messages[i])
		}
		if e := watched[i]; e.Kind != api.EvWatch || e.Name != fmt.Sprint("n", n) || e.Text != fmt.Sprint("v", n) {
			t.Errorf("the subscription event %d is %+v", i, e)
		}
	}
}

// A mirror in which there is something of everything; ahead of its end it has neither ended nor broken.
func TestM4Everything(t *testing.T) {
	p := full(t)
	got := ask(p.m)
	want := answers{
		state:   greetedState(),
		session: 1,
		feeds: []api.Feed{
			{Pane: 1, Start: 7, End: 15, Text: "hello", Gaps: []api.Gap{{From: 12, To: 15}}},
			{Pane: 2, End: 3, Text: "ab", Gaps: []api.Gap{{From: 2, To: 3}}, Paused: true},
		},
		replies: []api.Reply{
			{Tick: 3, Good: true},
			{Tick: 3, Number: 1, Flag: 1, Good: true, Body: []string{"one", "two"}},
			{Tick: 4, Number: 2, Flag: 1, Body: []string{"three"}},
		},
		messages: []string{"first", "second"},
		watched: []api.Event{
			{Kind: api.EvWatch, Name: "w", Session: 1, Window: 1, Pane: 1, Text: "value"},
			{Kind: api.EvWatch, Name: "v", Session: 1, Window: 1, Pane: 2, Text: "other"},
		},
		rest: "%mess",
	}
	if !same(got, want) {
		t.Errorf("it answers\n%+v\nand not\n%+v", got, want)
	}
	want.rest = ""
	want.messages = append(want.messages, "third")
	want.ended, want.reason = true, "detached"
	p.feed("age third\n%exit detached\n")
	if got := ask(p.m); !same(got, want) {
		t.Errorf("behind its end it answers\n%+v\nand not\n%+v", got, want)
	}
	want.broken, want.number = true, p.count()+1
	p.feed("x\n")
	if got := ask(p.m); !same(got, want) {
		t.Errorf("broken it answers\n%+v\nand not\n%+v", got, want)
	}
}

// full is a mirror in which there is something of everything.
func full(t *testing.T) *pair {
	t.Helper()
	p := greeted(t).follows("%begin 3 1 1", "one", "two", "%end 3 1 1", "%message first", "%subscription-changed w $1 @1 0 %1 : value", "%output %1 hello", "%output %2 ab")
	p.follows("%pause %1 12", "%continue %1 15", "%pause %2 3", "%begin 4 2 1", "three", "%error 4 2 1", "%message second", "%subscription-changed v $1 @1 0 %2 : other")
	return p.feed("%mess")
}

// Questions change nothing: they are answered the same again, and what comes behind them is the same.
func TestM4AskingChangesNothing(t *testing.T) {
	lines := strings.SplitAfter(full(t).b.all+"age x\n%exit\n%exit\n", "\n")
	silent, asked := New(), New()
	for _, line := range lines {
		silent.Feed(line)
		asked.Feed(line)
		first := ask(asked)
		for range 3 {
			if again := ask(asked); !same(again, first) {
				t.Fatalf("it answers\n%+v\nand then\n%+v", first, again)
			}
		}
	}
	if a, b := ask(silent), ask(asked); !same(a, b) {
		t.Errorf("asked:\n%+v\nand not asked:\n%+v", b, a)
	}
}

// Where there is nothing, the zero values are told.
func TestM4Nothing(t *testing.T) {
	p := begun(t).follows("%message a")
	if reason, ended := p.m.Ended(); reason != "" || ended {
		t.Errorf("ended: %q, %v", reason, ended)
	}
	if n, broken := p.m.Broken(); n != 0 || broken {
		t.Errorf("broken: %d, %v", n, broken)
	}
	p.breaks("%nothing")
	if reason, ended := p.m.Ended(); reason != "" || ended {
		t.Errorf("what is broken has not ended: %q, %v", reason, ended)
	}
}
