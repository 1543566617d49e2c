package buffers

import (
	"fmt"
	"maps"
	"slices"
	"strconv"
	"testing"

	"mullion/api"
)

// chance makes one call by chance on both, and tells which it was and what it answered.
func (p *pair) chance(d dealer) string {
	p.t.Helper()
	c := d.deal(p.book.every(), p.book.counter)
	return fmt.Sprintf("%s %d", c.verb, p.made(c))
}

// Long runs from nothing and from as many as there may be: behind each call all is asked.
func TestBU6LongRuns(t *testing.T) {
	reached := map[string]int{}
	for seed := range 20 {
		p, d := begun(t), dealt(seed)
		if seed%2 == 1 {
			p = fullOf(t, make([]string, seed)...)
		}
		for i := range 250 {
			reached[p.chance(d)]++
			if p.look(); i%10 == 0 {
				p.probe()
			}
			if t.Failed() {
				t.Fatalf("run %d, call %d", seed, i)
			}
		}
	}
	for _, wanted := range []string{
		"Set 0", "Set 2", "Set 3", "Set 73", "Delete 0", "Delete 240",
		"Rename 0", "Rename 3", "Rename 73", "Rename 74", "Rename 240", "Limit 0", "Limit 1",
	} {
		if reached[wanted] < 5 {
			t.Errorf("the runs have %q %d times: %v", wanted, reached[wanted], slices.Sorted(maps.Keys(reached)))
		}
	}
}

// All runs of three calls with few names, from a few beginnings: behind each all is asked.
func TestBU6ShortRuns(t *testing.T) {
	calls := []call{
		{"Set", "", "s"}, {"Set", "a", "t"}, {"Set", "buffer0", "u"}, {"Set", "buffer1", "v"}, {"Delete", "", ""}, {"Delete", "buffer0", ""},
		{"Rename", "", "a"}, {"Rename", "a", "buffer1"}, {"Rename", "buffer0", "buffer0"}, {"Limit", "", "1"}, {"Limit", "", "2"},
	}
	var run func(p *pair, left int)
	run = func(p *pair, left int) {
		for _, c := range calls {
			f := p.forked()
			if f.call(c); left > 1 {
				run(f, left-1)
			} else {
				f.probe()
			}
			if t.Failed() {
				return
			}
		}
	}
	for _, names := range [][]string{nil, {"a"}, {"", ""}, {"", "a", "", "buffer3"}} {
		run(stacked(t, names...), 3)
	}
}

// witness knows of each buffer which text was set last under its name, and whether it was made without one; of their order it knows nothing.
type witness struct {
	texts     map[string]string
	automatic map[string]bool
	limit     int
}

// saw tells the witness of a call and its answer; gone are names that it finds missing behind it.
func (w *witness) saw(c call, name string, err api.Errno, meant string) {
	switch {
	case err != api.OK:
	case c.verb == "Set":
		w.texts[name] = c.text
		w.automatic[name] = w.automatic[name] || c.name == ""
	case c.verb == "Delete":
		delete(w.texts, meant)
		delete(w.automatic, meant)
	case c.verb == "Rename":
		text := w.texts[meant]
		delete(w.texts, meant)
		delete(w.automatic, meant)
		w.texts[c.text], w.automatic[c.text] = text, false
	case c.verb == "Limit":
		w.limit, _ = strconv.Atoi(c.text)
	}
}

// forget lets automatic ones go that List does not tell any more; how many that may be the limit says.
func (w *witness) forget(there map[string]string) (gone int) {
	for name := range w.texts {
		if _, is := there[name]; !is && w.automatic[name] {
			gone++
			delete(w.texts, name)
			delete(w.automatic, name)
		}
	}
	return gone
}

func (w *witness) count(automatic bool) int {
	n := 0
	for name := range w.texts {
		if w.automatic[name] == automatic {
			n++
		}
	}
	return n
}

// Without the model: no two buffers of one name, the limits, and the texts that were set last.
func TestBU6WhatHolds(t *testing.T) {
	var most, pushed int
	for seed := range 60 {
		b, d := New(), dealt(1000+seed)
		w := &witness{map[string]string{}, map[string]bool{}, 20}
		for i := range 400 {
			c := d.deal(slices.Sorted(maps.Keys(w.texts)), i/4)
			meant, _ := b.Get(c.name)
			name, err := c.on(b)
			w.saw(c, name, err, meant.Name)
			over := max(0, w.count(true)-w.limit)
			list := b.List()
			there := map[string]string{}
			for _, one := range list {
				there[one.Name] = one.Text
				if got, err := b.Get(one.Name); got != one || err != api.OK {
					t.Fatalf("Get(%q) is %s, %d, and List tells %s", one.Name, short(got), err, short(one))
				}
			}
			if len(there) != len(list) {
				t.Fatalf("two buffers of one name: %s", shortList(list))
			}
			if gone := w.forget(there); gone != over {
				t.Fatalf("behind %v %d were pushed out, and not %d", c, gone, over)
			}
			if !maps.Equal(there, w.texts) {
				t.Fatalf("behind %v there is %s", c, shortList(list))
			}
			if w.count(true) > w.limit || w.count(false) > 20 {
				t.Fatalf("%d automatic ones, %d named ones", w.count(true), w.count(false))
			}
			most, pushed = max(most, len(list)), pushed+over
		}
	}
	if most < 35 || pushed < 500 {
		t.Errorf("the runs had %d buffers at most, and %d were pushed out", most, pushed)
	}
}

// What is refused changes nothing, nor does asking.
func TestBU6RefusedChangesNothing(t *testing.T) {
	for seed := range 40 {
		b, d := New(), dealt(2000+seed)
		for i := range 300 {
			was, next := b.List(), nextOf(b)
			var names []string
			for _, one := range was {
				names = append(names, one.Name)
			}
			b.Get("")
			b.Get(d.some(names, i/4))
			Paste("a\nb", "\r", true)
			c := d.deal(names, i/4)
			if _, err := c.on(b); err != api.OK && (!slices.Equal(b.List(), was) || nextOf(b) != next) {
				t.Fatalf("%v answers %d and has changed something", c, err)
			}
		}
	}
}

// nextOf is what could be known of some buffers beside what List tells: on a copy of them.
func nextOf(b *Buffers) string {
	f := *b
	f.stack = slices.Clone(f.stack)
	name, _ := f.Set("", "next")
	text := name + " " + shortList(f.List())
	f.Limit(1)
	return text + " " + shortList(f.List())
}
