package client

import (
	"fmt"
	"math"
	"slices"
	"strings"
	"testing"

	"mullion/api"
)

// said is an event of the watch w, and its line.
func said(pane int, value string) (api.Event, string) {
	e := api.Event{Kind: api.EvWatch, Name: "w", Session: 1, Window: 1, Pane: pane, Text: value}
	return e, fmt.Sprintf("%%subscription-changed w $1 @1 0 %%%d : %s", pane, value)
}

func TestC9Age(t *testing.T) {
	p := paired(t, 0)
	for _, n := range []int{0, 1, 500, 999, api.MaxAge} {
		if err := p.setAge(n); err != api.OK || p.c.Peer(1).Age != n {
			t.Errorf("SetAge(%d) = %d, the age is %d", n, err, p.c.Peer(1).Age)
		}
	}
	p.setAge(7)
	for _, n := range []int{math.MinInt, -1, api.MaxAge + 1, math.MaxInt} {
		if err := p.setAge(n); err != api.ErrArg || p.c.Peer(1).Age != 7 {
			t.Errorf("SetAge(%d) = %d, the age is %d", n, err, p.c.Peer(1).Age)
		}
	}
	p.exit("")
	if p.setAge(8) != api.OK || p.setAge(-1) != api.ErrArg || p.setAge(1001) != api.ErrArg || p.c.Peer(1).Age != 7 {
		t.Errorf("a closed client: the age is %d", p.c.Peer(1).Age)
	}
}

func TestC9Names(t *testing.T) {
	p := paired(t, 0)
	for _, name := range []string{"", " ", "a b", " a", "a ", "a:b", "a.b", "%a", "$a", "@a", "=a", "+a", "-a", "!a", "^a", "{a", "a\n", "\x7f", "ä", strings.Repeat("n", 33)} {
		if err := p.watch(name, "", "f"); err != api.ErrArg {
			t.Errorf("Watch(%q) = %d", name, err)
		}
	}
	if watches := p.c.Watches(); len(watches) != 0 {
		t.Errorf("watches: %v", watches)
	}
	for i, name := range []string{"a", "a%$@=+-!^{}", "~", "0", "A", strings.Repeat("n", 32)} {
		if err := p.watch(name, "", "f"); err != api.OK || len(p.c.Watches()) != i+1 {
			t.Errorf("Watch(%q) = %d, there are %d", name, err, len(p.c.Watches()))
		}
	}
}

func TestC9AnyTexts(t *testing.T) {
	p := paired(t, 0)
	for i, text := range []string{"", "%*", "@3", "\x00\n\xff", "#{pane_id}", strings.Repeat("f", 5000)} {
		name := fmt.Sprint("w", i)
		if err := p.watch(name, text, text+"!"); err != api.OK {
			t.Errorf("Watch(%q) = %d", text, err)
		}
		want := api.Watch{Name: name, What: text, Format: text + "!"}
		if got := p.c.Watches(); got[i] != want {
			t.Errorf("Watches() = %v", got)
		}
	}
	p.wantDrained()
}

func TestC9Full(t *testing.T) {
	p := paired(t, 0)
	names := []string{"h", "b", "g", "B", "a", "ab", "0", "z"}
	for i, name := range names {
		if err := p.watch(name, "x", fmt.Sprint(i)); err != api.OK {
			t.Fatalf("the %d. watch: %d", i+1, err)
		}
	}
	if err := p.watch("q", "", ""); err != api.ErrFull {
		t.Errorf("one more: %d", err)
	}
	if err := p.watch("q q", "", ""); err != api.ErrArg {
		t.Errorf("one more whose name is none: %d", err)
	}
	if err := p.watch("g", "y", "other"); err != api.OK {
		t.Errorf("one of a name that is there: %d", err)
	}
	want := []api.Watch{{Name: "0", What: "x", Format: "6"}, {Name: "B", What: "x", Format: "3"}, {Name: "a", What: "x", Format: "4"}, {Name: "ab", What: "x", Format: "5"},
		{Name: "b", What: "x", Format: "1"}, {Name: "g", What: "y", Format: "other"}, {Name: "h", What: "x", Format: "0"}, {Name: "z", What: "x", Format: "7"}}
	if got := p.c.Watches(); !slices.Equal(got, want) {
		t.Errorf("Watches() = %v", got)
	}
	p.unwatch("nothing")
	p.unwatch("")
	if err := p.watch("q", "", ""); err != api.ErrFull {
		t.Errorf("one more: %d", err)
	}
	p.unwatch("ab")
	if err := p.watch("q", "", ""); err != api.OK {
		t.Errorf("behind Unwatch: %d", err)
	}
	if err := p.watch("ab", "", ""); err != api.ErrFull {
		t.Errorf("the one that is gone: %d", err)
	}
	for _, name := range append(names, "q") {
		p.unwatch(name)
	}
	if got := p.c.Watches(); len(got) != 0 {
		t.Errorf("Watches() = %v", got)
	}
}

func TestC9Closed(t *testing.T) {
	p := paired(t, 0)
	for i := range api.MaxWatches - 1 {
		p.watch(fmt.Sprint("w", i), "", "")
	}
	p.exit("")
	if a, b, c := p.watch("w3", "x", "y"), p.watch("q", "", ""), p.watch(" ", "", ""); a != api.OK || b != api.OK || c != api.ErrArg {
		t.Errorf("a closed client: Watch = %d, %d, %d", a, b, c)
	}
	p.unwatch("w1")
	if got := p.c.Watches(); len(got) != api.MaxWatches-1 || got[3] != (api.Watch{Name: "w3"}) {
		t.Errorf("a closed client has changed: %v", got)
	}
	p = paired(t, 0)
	for i := range api.MaxWatches {
		p.watch(fmt.Sprint("w", i), "", "")
	}
	p.exit("")
	if a, b := p.watch("w3", "x", "y"), p.watch("q", "", ""); a != api.OK || b != api.ErrFull {
		t.Errorf("a closed client that is full: Watch = %d, %d", a, b)
	}
}

func TestC10Tell(t *testing.T) {
	p := paired(t, 1000)
	a, lineA := said(1, "a")
	p.tell("w", a)
	p.wantDrained()
	p.watch("w", "", "f")
	p.tell("v", a)
	p.tell("", a)
	p.wantDrained()
	p.tell("w", a)
	p.tell("w", a)
	p.wantDrained(lineA)
	p.tell("w")
	p.tell("w", a)
	p.wantDrained(lineA)
}

// What is told hangs on the list of the last call alone, wherever an event stands in it.
func TestC10Lists(t *testing.T) {
	p := paired(t, 1000)
	p.watch("w", "%*", "f")
	a, lineA := said(1, "a")
	b, lineB := said(2, "b")
	c, lineC := said(3, "c")
	p.tell("w", a, b)
	p.wantDrained(lineA, lineB)
	p.tell("w", c, b, a)
	p.wantDrained(lineC)
	p.tell("w", a)
	p.wantDrained()
	p.tell("w", c, a, b, a, c)
	p.wantDrained(lineC, lineB, lineC)
	p.tell("w", b, b)
	p.wantDrained()
	p.tell("w", a, a)
	p.wantDrained(lineA, lineA)
	p.tell("w")
	p.tell("w")
	p.wantDrained()
	p.tell("w", b, a)
	p.wantDrained(lineB, lineA)
}

// All fields count.
func TestC10Fields(t *testing.T) {
	base := api.Event{Kind: api.EvWatch, Name: "w", Session: 1, Window: 1, Index: 1, Pane: 1, Text: "v"}
	others := []api.Event{base, base, base, base, base, base}
	others[0].Name, others[1].Session, others[2].Window, others[3].Index, others[4].Pane, others[5].Text = "v", 2, 2, 2, 2, "w"
	for i, e := range others {
		p := paired(t, 1000)
		p.watch("w", "", "")
		p.tell("w", base)
		p.drain(999)
		p.tell("w", e)
		if p.drain(999) == "" {
			t.Errorf("the %d. other one was not told", i)
		}
		p.tell("w", base)
		if p.drain(999) == "" {
			t.Errorf("behind the %d. other one it was not told", i)
		}
	}
	layout := api.Event{Kind: api.EvLayout, Window: 1, Layout: "0", Visible: "0"}
	for _, e := range []api.Event{{Kind: api.EvLayout, Window: 1, Layout: "1", Visible: "0"}, {Kind: api.EvLayout, Window: 1, Layout: "0", Visible: "1"}, {Kind: api.EvLayout, Window: 1, Layout: "0", Visible: "0", Zoom: true}} {
		p := paired(t, 1000)
		p.watch("w", "", "")
		p.tell("w", layout)
		p.tell("w", e)
		if got := p.drain(999); strings.Count(got, "\n") != 2 {
			t.Errorf("%+v: %q", e, got)
		}
	}
}

func TestC10EachWatchItsOwn(t *testing.T) {
	p := paired(t, 1000)
	a, lineA := said(1, "a")
	b, lineB := said(2, "b")
	p.watch("v", "", "")
	p.watch("w", "", "")
	p.tell("w", a)
	p.tell("v", a, b)
	p.tell("w", a, b)
	p.wantDrained(lineA, lineA, lineB, lineB)
	p.notify(a)
	p.wantDrained(lineA)
	p.unwatch("v")
	p.tell("v", b)
	p.tell("w", a, b)
	p.wantDrained()
}

// A watch that begins anew, of the same texts or of others, has told nothing.
func TestC10Anew(t *testing.T) {
	a, lineA := said(1, "a")
	for _, format := range []string{"f", "g"} {
		p := paired(t, 1000)
		p.watch("w", "", "f")
		p.tell("w", a)
		p.watch("w", "", format)
		p.tell("w", a)
		p.tell("w", a)
		p.wantDrained(lineA, lineA)
		p.unwatch("w")
		p.watch("w", "", format)
		p.tell("w", a)
		p.wantDrained(lineA)
	}
	p := paired(t, 1000)
	for i := range api.MaxWatches {
		p.watch(fmt.Sprint("w", i), "", "")
	}
	p.watch("w", "", "")
	p.tell("w", a)
	p.wantDrained()
}

// As by Notify: what can't be told is passed over, but kept; a pane's close takes it out of the paused ones.
func TestC10AsByNotify(t *testing.T) {
	p := paired(t, 1000)
	p.watch("w", "", "")
	a, lineA := said(1, "a")
	p.tell("w", append(passedOver(), a)...)
	p.wantDrained(lineA)
	p.pause(3, 0)
	p.pause(4, 0)
	closed := api.Event{Kind: api.EvPaneClose, Pane: 3}
	p.tell("w", closed)
	p.wantDrained("%pause %3 0", "%pause %4 0", "%pane-close %3")
	p.pause(3, 1)
	p.tell("w", closed)
	p.wantDrained("%pause %3 1")
	if paused := p.c.Peer(1).Paused; !slices.Equal(paused, []int{3, 4}) {
		t.Errorf("paused: %v", paused)
	}
}

func TestC10NoRoom(t *testing.T) {
	p := filled(t, 0, api.Spare-60)
	ahead := p.m.size()
	a, lineA := said(1, "a")
	b, _ := said(2, "b")
	p.watch("w", "", "")
	p.tell("w", a, b)
	p.tell("w", b)
	if all := p.drain(math.MaxInt); all[ahead:] != lineA+"\n"+behindLine+"\n" {
		t.Errorf("drained %q", all[ahead:])
	}
	if got := p.c.Watches(); !slices.Equal(got, []api.Watch{{Name: "w"}}) {
		t.Errorf("Watches() = %v", got)
	}
}

func TestC10LongLists(t *testing.T) {
	c := made(t, api.MaxLimit)
	c.Watch(api.Watch{Name: "w"})
	l := make([]api.Event, 50000)
	for i := range l {
		l[i] = api.Event{Kind: api.EvMessage, Text: fmt.Sprint(i)}
	}
	c.Tell("w", l[:500])
	c.Drain(math.MaxInt)
	c.Tell("w", l[400:600])
	c.Drain(math.MaxInt)
	slices.Reverse(l)
	c.Tell("w", l[len(l)-500:])
	if got := strings.Count(c.Drain(math.MaxInt), "\n"); got != 400 {
		t.Errorf("%d lines", got)
	}
	bad := make([]api.Event, 100000)
	for i := range bad {
		bad[i] = api.Event{Kind: api.EvNone, Pane: i}
	}
	c.Tell("w", bad)
	c.Tell("w", bad)
	if got := c.Drain(math.MaxInt); got != "" {
		t.Errorf("told: %.100q", got)
	}
}
