package binds

import (
	"math"
	"runtime"
	"slices"
	"strings"
	"sync"
	"testing"
	"unsafe"

	"mullion/api"
)

// Every call ends at all arguments, also at such that make no sense.
func TestRule1AnyArguments(t *testing.T) {
	numbers := []int{math.MinInt, -1, 0, 1, 97, 1 << 24, 1<<24 + 1, 1 << 32, math.MaxInt}
	tables := []string{"", "root", "prefix", "\x00", "a b", "\xff\xfe", strings.Repeat("x", 1<<20)}
	for _, p := range []*pair{begun(t), bare(t), full(t)} {
		for _, table := range tables {
			for _, code := range numbers {
				for _, mods := range numbers {
					k := api.Key{Code: code, Mods: mods}
					p.find(table, k)
					for _, n := range numbers {
						p.press(Walk{table, n}, k, k, n, n)
						p.press(Walk{table, n}, api.Key{}, k, -n, n)
						p.press(Walk{table, n}, k, api.Key{Code: mods, Mods: code}, n, -n)
					}
					for _, line := range []string{"", "\x00\n", strings.Repeat("x", 1<<16)} {
						b := api.Binding{Table: table, Key: k, Line: line}
						if got, want := p.tables.Bind(b), p.book.bind(b); got != want {
							t.Errorf("Bind(%.20q, %v, %d bytes) answers %d, and not %d", table, k, len(line), got, want)
						}
					}
					if got, want := p.tables.Unbind(table, k), p.book.unbind(table, k); got != want {
						t.Errorf("Unbind(%.20q, %v) answers %d, and not %d", table, k, got, want)
					}
					if t.Failed() {
						return
					}
				}
			}
		}
		p.look()
	}
}

// What is refused, taken away or written over leaves nothing behind.
func TestRule1NothingGrows(t *testing.T) {
	p := begun(t)
	for i := range 100000 {
		b := api.Binding{Table: "t", Key: char(200 + i%1000), Line: "x"}
		if p.tables.Bind(b) != api.OK || p.tables.Unbind(b.Table, b.Key) != api.OK {
			t.Fatal("a binding is not taken, or not let go")
		}
	}
	p.look()
	if n := len(p.tables.rows); n != len(firstSheet) {
		t.Errorf("%d rows are kept", n)
	}
}

// What is answered may be written over, spare room too: the tables go on as they would.
func TestRule3ListsAreTheirCallers(t *testing.T) {
	p := full(t)
	for range 3 {
		for _, name := range p.book.names() {
			list := p.tables.List(name)
			for i := range list[:cap(list)] {
				list[:cap(list)][i] = api.Binding{Table: "spoilt", Line: "spoilt"}
			}
		}
		names := p.tables.Names()
		for i := range names[:cap(names)] {
			names[:cap(names)][i] = "spoilt"
		}
		p.look()
	}
}

// What was answered stays as it was, whatever comes.
func TestRule3AnswersStay(t *testing.T) {
	p, d := begun(t), dealt(11)
	var kept []func() bool
	for range 300 {
		b := d.binding()
		p.tables.Bind(b)
		if d.Intn(2) == 0 {
			p.tables.Unbind(d.table(), d.key())
		}
		list, names := p.tables.List(b.Table), p.tables.Names()
		found, _ := p.tables.Find(b.Table, b.Key)
		listCopy, namesCopy, foundCopy := slices.Clone(list), slices.Clone(names), found
		foundCopy.Line, foundCopy.Table = strings.Clone(found.Line), strings.Clone(found.Table)
		kept = append(kept, func() bool {
			return slices.Equal(list, listCopy) && slices.Equal(names, namesCopy) && found == foundCopy
		})
	}
	for n, same := range kept {
		if !same() {
			t.Errorf("answer %d has changed", n)
		}
	}
}

// stretch is some memory.
type stretch struct{ from, behind uintptr }

func stretchOf[T any](list []T) stretch {
	var one T
	from := uintptr(unsafe.Pointer(unsafe.SliceData(list)))
	return stretch{from, from + uintptr(cap(list))*unsafe.Sizeof(one)}
}

func textStretch(text string) stretch {
	from := uintptr(unsafe.Pointer(unsafe.StringData(text)))
	return stretch{from, from + uintptr(len(text))}
}

func wantApart(t *testing.T, all []stretch) {
	t.Helper()
	for i, x := range all {
		for j, y := range all[:i] {
			if x.from < y.behind && y.from < x.behind {
				t.Errorf("the answers %d and %d share memory", j, i)
			}
		}
	}
}

// No two lists that are answered share memory, spare room too; nor do they with those of other tables.
func TestRule3ListsAreNewMemory(t *testing.T) {
	a, b := New(), New()
	var parts []stretch
	var lists [][]api.Binding
	var names [][]string
	for range 3 {
		lists = append(lists, a.List("prefix"), b.List("prefix"), a.List("copy-mode"), b.List("copy-mode"))
		names = append(names, a.Names(), b.Names())
	}
	for _, l := range lists {
		parts = append(parts, stretchOf(l))
	}
	for _, n := range names {
		parts = append(parts, stretchOf(n))
	}
	wantApart(t, parts)
	runtime.KeepAlive(lists)
	runtime.KeepAlive(names)
}

// The texts that are told are new memory too, each time.
func TestRule3TextsAreNewMemory(t *testing.T) {
	tables := New()
	b := api.Binding{Table: "root", Key: char('k'), Line: "a line of some length"}
	tables.Bind(b)
	repeats := api.Binding{Table: "prefix", Key: char('k'), Line: "another line of some length", Repeat: true}
	tables.Bind(repeats)
	var texts []string
	for range 3 {
		found, _ := tables.Find("root", b.Key)
		listed := tables.List("root")
		_, line, _ := tables.Press(Walk{}, api.Key{}, b.Key, 0, 0)
		_, other, _ := tables.Press(Walk{Table: "root"}, api.Key{}, b.Key, 0, 0)
		_, third, _ := tables.Press(Walk{Table: "prefix"}, api.Key{}, b.Key, 0, 1)
		_, fourth, _ := tables.Press(Walk{"prefix", 1}, api.Key{}, b.Key, 1, 1)
		texts = append(texts, found.Table, found.Line, listed[0].Table, listed[0].Line, line, other, third, fourth)
		texts = append(texts, tables.Names()...)
	}
	parts := []stretch{textStretch(b.Table), textStretch(b.Line), textStretch(repeats.Line)}
	for _, text := range texts {
		parts = append(parts, textStretch(text))
	}
	for at, m := range tables.rows {
		if at.key == b.Key {
			parts = append(parts, textStretch(at.table), textStretch(m.line))
		}
	}
	wantApart(t, parts)
	runtime.KeepAlive(texts)
}

// loose is a text in memory that is written over later.
func loose(text string) (string, func()) {
	memory := []byte(text)
	return unsafe.String(unsafe.SliceData(memory), len(memory)), func() {
		for i := range memory {
			memory[i] = '!'
		}
	}
}

// The texts of what is handed in are written over behind each call: what is kept, and what is told, was copied.
func TestRule3NothingHandedInIsKept(t *testing.T) {
	p := bare(t)
	for _, table := range []string{"root", "prefix", "menu"} {
		for range 2 {
			b := api.Binding{Table: table, Key: char('k'), Line: "line of " + table, Repeat: true}
			p.book.bind(b)
			name, spoilName := loose(table)
			line, spoilLine := loose(b.Line)
			if err := p.tables.Bind(api.Binding{Table: name, Key: b.Key, Line: line, Repeat: true}); err != api.OK {
				t.Errorf("Bind answers %d", err)
			}
			found, _ := p.tables.Find(name, b.Key)
			listed := p.tables.List(name)
			walk, told, _ := p.tables.Press(Walk{Table: name}, api.Key{}, b.Key, 1, 2)
			spoilName()
			spoilLine()
			if found != b || !slices.Equal(listed, []api.Binding{b}) || told != b.Line || walk.Table != "" && walk.Table != "prefix" {
				t.Errorf("told was %v, %v, %v, %q", found, listed, walk, told)
			}
			p.look()
		}
	}
	for _, table := range []string{"root", "prefix", "menu"} {
		name, spoil := loose(table)
		if err := p.tables.Unbind(name, char('k')); err != api.OK {
			t.Errorf("Unbind answers %d", err)
		}
		spoil()
		p.book.unbind(table, char('k'))
		p.look()
	}
}

// Two that are used in turns do not know of one another.
func TestRule4TwoInTurns(t *testing.T) {
	for seed := range 20 {
		a, b := begun(t), begun(t)
		da, db := dealt(3000+seed), dealt(4000+seed)
		for range 60 {
			a.chance(da)
			b.look().chance(db)
			a.look()
		}
		b.look()
	}
}

// What was pressed and refused ahead of a call changes nothing about it.
func TestRule4PressHangsOnItsArguments(t *testing.T) {
	p, d := pressing(t), dealt(5)
	for range 2000 {
		w, prefix, k, tick, repeat := Walk{d.table(), d.Intn(9) - 1}, d.key(), d.key(), d.Intn(9), d.Intn(4)
		first := p.press(w, prefix, k, tick, repeat)
		p.press(Walk{d.table(), 9}, k, d.key(), d.Intn(9), 3)
		p.tables.Bind(api.Binding{Table: "a b", Key: k, Line: "refused"})
		p.tables.Unbind("nowhere", k)
		if again := p.press(w, prefix, k, tick, repeat); again != first {
			t.Errorf("Press(%v, %v, %v, %d, %d) is first %v, then %v", w, prefix, k, tick, repeat, first, again)
		}
	}
}

// Many at once, from many goroutines, tell what each tells alone.
func TestRule4ManyAtOnce(t *testing.T) {
	var work sync.WaitGroup
	for worker := range 8 {
		p, d := begun(t), dealt(6000+worker%2)
		work.Go(func() {
			for range 150 {
				p.chance(d)
			}
			p.look()
		})
	}
	work.Wait()
}
