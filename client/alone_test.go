package client

import (
	"fmt"
	"math"
	"slices"
	"strings"
	"sync"
	"testing"
	"unsafe"

	"mullion/api"
)

func TestRule1EveryCallEnds(t *testing.T) {
	numbers := []int{math.MinInt, math.MinInt + 1, -api.MaxNumber, -1, 0, 1, 2, 1000, 1001, api.MaxLimit, api.MaxLimit + 1,
		api.MaxNumber - 1, api.MaxNumber, api.MaxNumber + 1, math.MaxInt - 1, math.MaxInt}
	texts := []string{"", "a", "w", "a\nb", "%x", "\x00\xff", strings.Repeat("x", 9000), strings.Repeat("\n", 300)}
	for _, limit := range numbers {
		if c, err := New(limit); (c == nil) != (err != api.OK) {
			t.Fatalf("New(%d): error %d, and nil is %v", limit, err, c == nil)
		}
		if limit < 0 || limit > api.MaxLimit {
			continue
		}
		for _, ends := range []bool{false, true} {
			p := paired(t, limit)
			if ends {
				p.exit("")
			}
			for _, n := range numbers {
				for _, k := range numbers {
					p.output(n, k, k, "x")
					p.output(n, 1, k, strings.Repeat("y", 300))
					p.pause(n, k)
					p.goOn(n, k)
				}
				for _, text := range texts {
					p.goTo(n, text)
					p.watch(text, text, text)
					p.tell(text, api.Event{Kind: n, Pane: n, Text: text}, api.Event{Kind: api.EvPaneClose, Pane: n})
					p.notify(api.Event{Kind: api.EvMessage, Text: text}, api.Event{Kind: n})
					p.feed(text)
					p.unwatch(text)
				}
				p.setAge(n)
				p.late(n)
				p.drain(n)
			}
			p.notify()
			p.tell("w")
			p.late(0)
		}
		for _, n := range numbers {
			for _, text := range texts {
				p := paired(t, limit)
				p.hello(n, api.Event{Kind: n, Text: text})
				p.block(n, true, text)
				p.block(n, false)
				p.exit(text)
				p.drain(math.MaxInt)
			}
		}
	}
}

// written is a text in memory of its own, that can be written over.
type written struct{ memory []byte }

func (w *written) text(s string) string {
	from := len(w.memory)
	w.memory = append(w.memory, s...)
	return unsafe.String(unsafe.SliceData(w.memory[from:]), len(s))
}

// room makes the memory great enough that it does not move.
func room() *written { return &written{memory: make([]byte, 0, 1<<16)} }

func (w *written) spoil() {
	for i := range w.memory {
		w.memory[i] = '\n'
	}
}

// The lists and the texts' bytes are written over behind each call: what was kept of them was copied.
func TestRule3NothingHandedInIsKept(t *testing.T) {
	p := paired(t, 20000)
	for i := range 40 {
		w := room()
		event := func(kind int, name, text string) api.Event {
			return api.Event{Kind: kind, Session: 1, Window: 1, Pane: 1, Name: w.text(name), Text: w.text(text)}
		}
		value := fmt.Sprint("value ", i/3)
		watched := []api.Event{event(api.EvWatch, "w", value), {Kind: api.EvLayout, Window: 1, Layout: w.text("0,1"), Visible: w.text("2")}}
		told := []api.Event{{Kind: api.EvMessage, Text: w.text(value)}, {Kind: api.EvPaneClose, Pane: 8}}
		body := []string{w.text("a line"), w.text("%"), w.text(value)}
		lines := slices.Clone(body)
		for j := range lines {
			lines[j] = strings.Clone(lines[j])
		}
		if i%7 == 0 {
			p.c.Watch(api.Watch{Name: w.text("w"), What: w.text("what"), Format: w.text(value)})
			p.m.watch(api.Watch{Name: "w", What: "what", Format: value})
		}
		p.c.Tell(w.text("w"), watched)
		p.m.tellWatch("w", []api.Event{
			{Kind: api.EvWatch, Name: "w", Session: 1, Window: 1, Pane: 1, Text: value},
			{Kind: api.EvLayout, Window: 1, Layout: "0,1", Visible: "2"}})
		p.c.Notify(told...)
		p.m.notify(api.Event{Kind: api.EvMessage, Text: value}, api.Event{Kind: api.EvPaneClose, Pane: 8})
		p.c.Block(i, true, body)
		p.m.answer(i, true, lines)
		p.c.Output(1, i, 0, w.text(value))
		p.m.output(1, i, 0, value)
		p.c.Go(1, w.text("name"))
		p.m.goTo(1, "name")
		if got, want := p.c.Feed(w.text("an input line\nrest ")), p.m.feed("an input line\nrest "); !slices.Equal(got, want) {
			t.Fatalf("Feed: %v, want %v", got, want)
		}
		w.spoil()
		clear(watched)
		clear(told)
		clear(body)
		p.look("the calls")
		p.drain(400)
	}
	w := room()
	p.c.Exit(w.text("the end"))
	p.m.exit("the end")
	w.spoil()
	p.drain(math.MaxInt)
}

func TestRule3ListsHandedInStay(t *testing.T) {
	l := append(passedOver(), message(20), api.Event{Kind: api.EvPaneClose, Pane: 1}, message(20))
	body := []string{"b", "", "%a", "a\nb", "c"}
	p := paired(t, 1000)
	p.watch("w", "", "")
	for _, n := range []int{0, 3, len(l)} {
		events, texts := slices.Clone(l), slices.Clone(body)
		p.hello(1, events[:n]...)
		p.notify(events[:n]...)
		p.tell("w", events[:n]...)
		p.block(1, true, texts[:min(n, len(texts))]...)
		p.block(-1, true, texts[:min(n, len(texts))]...)
		if !slices.Equal(events, l) || !slices.Equal(texts, body) {
			t.Fatalf("lists of %d have changed", n)
		}
		p = paired(t, 1000)
		p.watch("w", "", "")
	}
}

// stretch is some memory.
type stretch struct{ from, behind uintptr }

func stretchOf[T any](l []T) stretch {
	var one T
	from := uintptr(unsafe.Pointer(unsafe.SliceData(l)))
	return stretch{from, from + uintptr(cap(l))*unsafe.Sizeof(one)}
}

func stretchOfText(s string) stretch {
	from := uintptr(unsafe.Pointer(unsafe.StringData(s)))
	return stretch{from, from + uintptr(len(s))}
}

func share(a, b stretch) bool { return a.from < b.behind && b.from < a.behind }

func watchTexts(l []api.Watch) []string {
	var texts []string
	for _, w := range l {
		texts = append(texts, w.Name, w.What, w.Format)
	}
	return texts
}

func wantApart(t *testing.T, what string, a, b []string) {
	t.Helper()
	for _, x := range a {
		for _, y := range b {
			if share(stretchOfText(x), stretchOfText(y)) {
				t.Errorf("%s: %q and %q share memory", what, x, y)
			}
		}
	}
}

func TestRule3AnswersAreTheirCallers(t *testing.T) {
	p := paired(t, 5000)
	p.setAge(1)
	for i, name := range []string{"one", "two", "three"} {
		p.watch(name, fmt.Sprint("what", i), fmt.Sprint("format", i))
		p.output(9-i, 0, 0, "data")
		p.pause(3+i, 0)
	}
	var kept []string
	for key, w := range p.c.watches {
		kept = append(kept, key, w.Name, w.What, w.Format)
	}
	for range 3 {
		a, b := p.c.Peer(1), p.c.Peer(1)
		c, d := p.c.Watches(), p.c.Watches()
		wantApart(t, "two peers", watchTexts(a.Watches), watchTexts(b.Watches))
		wantApart(t, "two lists", watchTexts(c), watchTexts(d))
		wantApart(t, "a peer and a list", watchTexts(a.Watches), watchTexts(c))
		wantApart(t, "an answer and what is kept", watchTexts(a.Watches), kept)
		wantApart(t, "an answer and what is kept", watchTexts(c), kept)
		late, again := p.c.Late(9), p.c.Late(9)
		for _, both := range [][2]stretch{
			{stretchOf(a.Paused), stretchOf(b.Paused)}, {stretchOf(a.Watches), stretchOf(b.Watches)}, {stretchOf(c), stretchOf(d)},
			{stretchOf(a.Watches), stretchOf(c)}, {stretchOf(late), stretchOf(again)}, {stretchOf(late), stretchOf(a.Paused)},
		} {
			if share(both[0], both[1]) {
				t.Error("two answers share memory")
			}
		}
		if !slices.Equal(late, []int{7, 8, 9}) || !slices.Equal(a.Paused, []int{3, 4, 5}) {
			t.Fatalf("late: %v, paused: %v", late, a.Paused)
		}
		for _, l := range [][]int{late[:cap(late)], a.Paused[:cap(a.Paused)]} {
			for i := range l {
				l[i] = -7
			}
		}
		clear(a.Watches)
		clear(c[:cap(c)])
		slices.Reverse(d)
		p.look("answers that are written over")
		p.late(9)
	}
	was := p.c.Peer(1)
	same := api.Peer{Client: 1, Limit: 5000, Age: 1, Size: was.Size, Paused: []int{3, 4, 5}, Watches: p.m.watchList()}
	p.goOn(4, 0)
	p.unwatch("one")
	p.watch("two", "", "other")
	if !samePeer(was, same) {
		t.Errorf("an answer has changed: %+v", was)
	}
}

func TestRule3LinesAreTheirCallers(t *testing.T) {
	p := paired(t, 100)
	chunk := "first\nsecond\nre"
	lines := p.feed(chunk)
	for _, line := range lines {
		wantApart(t, "Feed", []string{line.Text}, []string{chunk})
	}
	lines[0] = api.Line{Text: "other"}
	lines = append(lines[:1], api.Line{Long: true})
	p.feed("st\nthird\n")
	p.notify(message(50))
	a, b := p.drain(20), p.drain(20)
	wantApart(t, "Drain", []string{a}, []string{b})
	if len(lines) != 2 {
		t.Error("a list has changed")
	}
}

func TestRule4TwoInTurns(t *testing.T) {
	for _, limits := range [][2]int{{20, 20}, {0, 300}, {3000, 13}} {
		count := map[string]int{}
		a, b := goes(t, limits[0], 41, false, count), goes(t, limits[1], 42, false, count)
		a.hello(1)
		b.hello(2)
		for i := range 800 {
			a.step(i > 700)
			b.look("the other one's call")
			b.step(i > 600)
			a.look("the other one's call")
			made(t, 30).Pause(1, 1)
		}
		a.wantWhole()
		b.wantWhole()
	}
}

func TestRule4OneIsClosed(t *testing.T) {
	a, b := paired(t, 100), paired(t, 100)
	for _, p := range []*pair{a, b} {
		p.watch("w", "", "")
		p.pause(2, 0)
	}
	a.exit("bye")
	b.look("the other one's exit")
	b.unwatch("w")
	b.goOn(2, 1)
	b.goTo(4, "b")
	a.look("the other one's calls")
	a.wantDrained("%pause %2 0", "%exit bye")
	b.wantDrained("%pause %2 0", "%continue %2 1", "%session-changed $4 b")
}

// What is asked changes no answer, however often and in between.
func TestRule4LookingChangesNothing(t *testing.T) {
	calls := func(looks int) string {
		r := goes(t, 100, 9, false, map[string]int{})
		for i := range 400 {
			for range looks {
				r.c.Peer(i)
				r.c.Watches()
				r.c.Late(i)
				r.c.Closed()
				r.c.Session()
			}
			r.step(false)
		}
		r.wantWhole()
		return r.told.String()
	}
	if calls(0) != calls(3) {
		t.Error("a client that is asked answers otherwise")
	}
}

func TestRule4ManyAtOnce(t *testing.T) {
	var all sync.WaitGroup
	for worker := range 8 {
		all.Go(func() {
			var told [2]string
			for turn := range told {
				r := goes(t, 50*worker, int64(worker), false, map[string]int{})
				r.hello(0)
				for i := range 300 {
					r.step(i > 200)
				}
				r.drain(math.MaxInt)
				told[turn] = r.told.String()
			}
			if told[0] != told[1] {
				t.Errorf("worker %d: the same calls tell otherwise", worker)
			}
		})
	}
	all.Wait()
}

// What is kept of panes and watches goes with them.
func TestNoMoreIsKept(t *testing.T) {
	c := made(t, 100)
	for pane := 1; pane <= 3000; pane++ {
		c.Pause(pane, 0)
		if pane%2 == 0 {
			c.Continue(pane, 0)
		} else {
			c.Notify(api.Event{Kind: api.EvPaneClose, Pane: pane})
		}
		name := fmt.Sprint("w", pane)
		c.Watch(api.Watch{Name: name})
		c.Tell(name, []api.Event{message(20)})
		c.Tell(name, nil)
		if w := c.watches[name]; len(w.said) != 0 {
			t.Fatalf("a watch that says nothing keeps %d events", len(w.said))
		}
		c.Unwatch(name)
		c.Drain(math.MaxInt)
	}
	if len(c.paused) != 0 || len(c.watches) != 0 || c.Closed() {
		t.Errorf("%d paused panes and %d watches are kept", len(c.paused), len(c.watches))
	}
}
