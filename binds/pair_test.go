package binds

import (
	"fmt"
	"slices"
	"testing"

	"mullion/api"
	"mullion/keys"
)

// pair is tables and the book beside them: every call is made on both.
type pair struct {
	t      testing.TB
	tables *Tables
	book   *book
	faults int
}

// fault tells of the first few faults: many would say the same.
func (p *pair) fault(format string, args ...any) {
	p.t.Helper()
	if p.faults++; p.faults <= 10 {
		p.t.Errorf(format, args...)
	}
}

// begun is new tables; a test that has failed makes no more of them.
func begun(t testing.TB) *pair {
	t.Helper()
	if t.Failed() {
		t.FailNow()
	}
	tables := New()
	if tables == nil {
		t.Fatal("New answers nil")
	}
	return (&pair{t: t, tables: tables, book: firstBook()}).look()
}

// bare is tables out of which all bindings of the beginning were taken.
func bare(t testing.TB) *pair {
	t.Helper()
	p := begun(t)
	for _, b := range firstBook().all {
		p.unbind(b.Table, b.Key, api.OK)
	}
	return p
}

// full is tables with as many bindings as may be: those beyond the first are of the table filler.
func full(t testing.TB) *pair {
	t.Helper()
	p := begun(t)
	for code := 1000; len(p.book.all) < 200; code++ {
		p.bind(api.Binding{Table: "filler", Key: api.Key{Code: code}, Line: "f"}, api.OK)
	}
	return p.look()
}

// short is a binding as messages tell it: lines may be very long.
func short(b api.Binding) string {
	return fmt.Sprintf("{%.40q %v %v %.40q of %d bytes}", b.Table, b.Key, b.Repeat, b.Line, len(b.Line))
}

// differ tells the first place at which two lists of bindings are not the same.
func differ(got, want []api.Binding) string {
	for i := range min(len(got), len(want)) {
		if got[i] != want[i] {
			return fmt.Sprintf("has at %d %s, and not %s", i, short(got[i]), short(want[i]))
		}
	}
	return fmt.Sprintf("has %d bindings, and not %d", len(got), len(want))
}

// look asks for all that can be asked for.
func (p *pair) look() *pair {
	p.t.Helper()
	names := p.book.names()
	if got := p.tables.Names(); !slices.Equal(got, names) {
		p.fault("Names() is %q, and not %q", got, names)
	}
	for _, table := range append([]string{"", "root", "prefix", "copy-mode", "pre", "Prefix", "nowhere", "a b"}, names...) {
		if got, want := p.tables.List(table), p.book.list(table); !slices.Equal(got, want) {
			p.fault("List(%q) %s", table, differ(got, want))
		}
	}
	for _, b := range p.book.all {
		if got, ok := p.tables.Find(b.Table, b.Key); got != b || !ok {
			p.fault("Find(%q, %v) is %s, %v, and not %s", b.Table, b.Key, short(got), ok, short(b))
		}
	}
	return p
}

func (p *pair) bind(b api.Binding, want api.Errno) *pair {
	p.t.Helper()
	got, model := p.tables.Bind(b), p.book.bind(b)
	if got != want || model != want {
		p.fault("Bind(%.60q, %v, %v, a line of %d bytes) answers %d, the model %d, and not %d", b.Table, b.Key, b.Repeat, len(b.Line), got, model, want)
	}
	return p
}

func (p *pair) unbind(table string, k api.Key, want api.Errno) *pair {
	p.t.Helper()
	got, model := p.tables.Unbind(table, k), p.book.unbind(table, k)
	if got != want || model != want {
		p.fault("Unbind(%.60q, %v) answers %d, the model %d, and not %d", table, k, got, model, want)
	}
	return p
}

func (p *pair) find(table string, k api.Key) *pair {
	p.t.Helper()
	got, ok := p.tables.Find(table, k)
	want, is := p.book.find(table, k)
	if got != want || ok != is {
		p.fault("Find(%.60q, %v) is %s, %v, and not %s, %v", table, k, short(got), ok, short(want), is)
	}
	return p
}

// press presses a key, and tells what comes of it.
func (p *pair) press(w Walk, prefix, k api.Key, tick, repeat int) pressed {
	p.t.Helper()
	got := pressedOn(p.tables, w, prefix, k, tick, repeat)
	if want := p.book.press(w, prefix, k, tick, repeat); got != want {
		p.fault("Press(%.60v, %v, %v, %d, %d) is %v, and not %v", w, prefix, k, tick, repeat, got, want)
	}
	return got
}

func (p pressed) String() string {
	return fmt.Sprintf("{%.60v %.40q of %d bytes, for the pane: %v}", p.walk, p.line, len(p.line), p.pane)
}

func pressedOn(t *Tables, w Walk, prefix, k api.Key, tick, repeat int) pressed {
	walk, line, pane := t.Press(w, prefix, k, tick, repeat)
	return pressed{walk, line, pane}
}

// key is the key of a name.
func key(t testing.TB, name string) api.Key {
	t.Helper()
	k, err := keys.Read(name)
	if err != api.OK {
		t.Fatalf("%q is no key's name", name)
	}
	return k
}

func char(code int) api.Key { return api.Key{Code: code} }
