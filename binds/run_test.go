package binds

import (
	"maps"
	"math"
	"slices"
	"strconv"
	"testing"

	"mullion/api"
)

// chance makes one call by chance on both, and tells which it was and what it answered.
func (p *pair) chance(d dealer) (string, api.Errno) {
	table, k := d.table(), d.key()
	switch d.Intn(6) {
	case 0:
		if len(p.book.all) > 0 && d.Intn(2) == 0 {
			b := p.book.all[d.Intn(len(p.book.all))]
			table, k = b.Table, b.Key
		}
		got, want := p.tables.Unbind(table, k), p.book.unbind(table, k)
		if got != want {
			p.fault("Unbind(%.60q, %v) answers %d, and not %d", table, k, got, want)
		}
		return "unbind", got
	case 1:
		w := Walk{d.table(), d.Intn(12) - 2}
		if d.Intn(3) == 0 {
			w.Table = ""
		}
		p.press(w, d.key(), k, d.Intn(12), d.Intn(5)-1)
		return "press", 0
	case 2:
		p.find(table, k)
		return "find", 0
	}
	b := d.binding()
	got, want := p.tables.Bind(b), p.book.bind(b)
	if got != want {
		p.fault("Bind(%.60q, %v) answers %d, and not %d", b.Table, b.Key, got, want)
	}
	return "bind", got
}

// Long runs from the beginning, from the empty tables and from the full ones: behind each call all is asked.
func TestBI5LongRuns(t *testing.T) {
	for seed := range 12 {
		begin := []func(testing.TB) *pair{begun, bare, full}[seed%3]
		p, d := begin(t), dealt(seed)
		reached := map[string]int{}
		for range 400 {
			call, err := p.chance(d)
			reached[call+" "+strconv.Itoa(int(err))]++
			if p.look(); t.Failed() {
				return
			}
		}
		wanted := []string{"bind 0", "bind 73", "bind 210", "bind 2", "unbind 0", "unbind 220", "find 0", "press 0"}
		if seed%3 == 2 {
			wanted = append(wanted, "bind 3")
		}
		for _, w := range wanted {
			if reached[w] == 0 {
				t.Errorf("run %d has no %q: %v", seed, w, slices.Sorted(maps.Keys(reached)))
			}
		}
	}
}

// all is every binding that tables tell of.
func all(t *Tables) []api.Binding {
	var list []api.Binding
	for _, name := range t.Names() {
		list = append(list, t.List(name)...)
	}
	return list
}

// without is a list without the binding of a table and a key.
func without(list []api.Binding, table string, k api.Key) []api.Binding {
	return slices.DeleteFunc(slices.Clone(list), func(b api.Binding) bool { return b.Table == table && b.Key == k })
}

// What the promise says, without the model: one binding is told, or is none, and every other one is as it was.
func TestBI5OneAlone(t *testing.T) {
	for seed := range 15 {
		d := dealt(1000 + seed)
		tables := New()
		for range 300 {
			was := all(tables)
			b := d.binding()
			if d.Intn(3) > 0 {
				switch err := tables.Bind(b); err {
				case api.OK:
					if got, ok := tables.Find(b.Table, b.Key); got != b || !ok {
						t.Fatalf("bound was %s, found is %s, %v", short(b), short(got), ok)
					}
					if !slices.Equal(without(all(tables), b.Table, b.Key), without(was, b.Table, b.Key)) {
						t.Fatalf("behind Bind of %s others have changed", short(b))
					}
				default:
					if !slices.Equal(all(tables), was) {
						t.Fatalf("a Bind that answers %d has changed something", err)
					}
				}
				continue
			}
			err := tables.Unbind(b.Table, b.Key)
			if got, ok := tables.Find(b.Table, b.Key); got != (api.Binding{}) || ok {
				t.Fatalf("unbound was %.60q, %v, found is %s, %v", b.Table, b.Key, short(got), ok)
			}
			if now := all(tables); !slices.Equal(now, without(was, b.Table, b.Key)) || err == api.OK && len(now) != len(was)-1 {
				t.Fatalf("behind Unbind of %.60q, %v others have changed", b.Table, b.Key)
			}
		}
	}
}

// Pressing, finding and listing change nothing.
func TestBI5PressChangesNothing(t *testing.T) {
	for _, p := range []*pair{begun(t), bare(t), full(t), pressing(t)} {
		d := dealt(7)
		was := all(p.tables)
		for range 3000 {
			w := Walk{d.table(), d.Intn(12) - 2}
			p.tables.Press(w, d.key(), d.key(), d.Intn(12), d.Intn(5)-1)
			p.tables.Find(d.table(), d.key())
			p.tables.List(d.table())
			p.tables.Names()
		}
		if !slices.Equal(all(p.tables), was) {
			t.Error("something has changed")
		}
		p.look()
	}
}

// Keys by chance from rest on, with tables that change meanwhile: what BI6 says of each key.
func TestBI6KeysByChance(t *testing.T) {
	var panes, lines, sent, stayed, left int
	for seed := range 200 {
		d := dealt(2000 + seed)
		p := pressing(t)
		if seed%2 == 0 {
			p = begun(t)
		}
		w, tick, prefix := Walk{}, d.Intn(5), prefixKey
		for range 300 {
			if d.Intn(10) == 0 {
				b := d.binding()
				p.tables.Bind(b)
				p.book.bind(b)
			}
			if d.Intn(40) == 0 {
				prefix = d.key()
			}
			tick += d.Intn(3) / 2
			k := d.key()
			switch d.Intn(5) {
			case 0:
				k = prefix
			case 1:
				k = char(api.KeyUp + d.Intn(4))
			case 2:
				k = again
			}
			next := p.press(w, prefix, k, tick, d.Intn(4))
			p.wantBI6(w, prefix, k, next)
			switch {
			case next.pane && w.Until > 0:
				left++
			case next.pane:
				panes++
			case next.line == "send-prefix":
				sent++
			case next.line != "" && w.Until > 0 && next.walk.Until > 0:
				stayed++
			case next.line != "":
				lines++
			}
			w = next.walk
		}
		if p.look(); t.Failed() {
			return
		}
	}
	for i, n := range []int{panes, lines, sent, stayed, left} {
		if n < 100 {
			t.Errorf("the way %d was gone %d times alone", i, n)
		}
	}
}

// wantBI6 holds what a key came to against the promise.
func (p *pair) wantBI6(w Walk, prefix, k api.Key, got pressed) {
	p.t.Helper()
	_, root := p.tables.Find("root", k)
	if got.pane {
		atRest := w == Walk{} || w.Table == "prefix" && w.Until > 0
		if !atRest || got.walk != (Walk{}) || got.line != "" || k == prefix || root {
			p.fault("at %v the key %v is for the pane: %v", w, k, got)
		}
	}
	if w == (Walk{}) && !got.pane && k != prefix && !root {
		p.fault("at rest the key %v is not for the pane: %v", k, got)
	}
	if got.line != "" && got.line != "send-prefix" {
		if !slices.ContainsFunc(all(p.tables), func(b api.Binding) bool { return b.Key == k && b.Line == got.line }) {
			p.fault("at %v the key %v gives the line %.60q, which no binding has", w, k, got.line)
		}
	}
	if got.line == "send-prefix" && k != prefix {
		p.fault("at %v the key %v gives %q", w, k, got.line)
	}
	if got.walk != (Walk{}) && (got.walk.Table != "prefix" || got.walk.Until < 0) {
		p.fault("the key %v leads from %v to %v", k, w, got.walk)
	}
}

// Somebody who presses at the greatest ticks stands open up to the greatest one, and is never thrown out.
func TestBI6AtTheGreatestTick(t *testing.T) {
	p := begun(t)
	w := p.press(Walk{}, prefixKey, prefixKey, math.MaxInt, 5).walk
	for range 10 {
		got := p.press(w, prefixKey, char(api.KeyUp), math.MaxInt, 5)
		p.wantBI6(w, prefixKey, char(api.KeyUp), got)
		if want := (pressed{Walk{"prefix", math.MaxInt}, "select-pane -U", false}); got != want {
			t.Errorf("from %v: %v, and not %v", w, got, want)
		}
		w = got.walk
	}
}
