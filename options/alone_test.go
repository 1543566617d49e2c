package options

import (
	"math"
	"runtime"
	"slices"
	"strings"
	"sync"
	"testing"
	"unsafe"

	"mullion/api"
)

// Every call ends at all arguments, also at such that make no sense.
func TestRule1AnyArguments(t *testing.T) {
	numbers := []int{math.MinInt, -1, 0, 1, 2, 3, 4, 5, 1 << 32, 1 << 62, 1<<62 + 1, math.MaxInt}
	texts := []string{"", "on", "\x00", "\xff\xfe", "C-", strings.Repeat("9", 1<<16), strings.Repeat("C-", 1<<15)}
	names := []string{"", "\x00", strings.Repeat("x", 1<<16), "escape-time", "prefix", "status-left", "status", "pane-border", "scroll-keep"}
	for _, p := range []*pair{begun(t), scattered(t), full(t)} {
		for _, name := range names {
			for _, a := range numbers {
				for _, b := range numbers {
					for _, text := range texts {
						for _, verb := range calls {
							p.call(verb, a, b, name, text)
						}
					}
					p.get(name, a, b, a).get(name, b, a, b)
					p.drop(a, b)
					if got, want := p.options.Local(a, b), p.book.local(a, b); !slices.Equal(got, want) {
						t.Errorf("Local(%d, %d) is %s, and not %s", a, b, shortList(got), shortList(want))
					}
				}
			}
			if t.Failed() {
				return
			}
		}
		p.look()
	}
}

// What is refused, taken away or written over leaves nothing behind.
func TestRule1NothingGrows(t *testing.T) {
	o := New()
	for i := range 20000 {
		id := 1 + i
		if o.Set(2, id, "status-left", "x") != api.OK || o.Add(2, id, "status-left", "y") != api.OK || o.Turn(4, id, "scroll-keep") != api.OK {
			t.Fatal("something is not set")
		}
		o.Set(2, id, "status", "no value")
		o.Unset(2, id, "status-left")
		o.Drop(4, id)
		o.Get("prefix", id, id, id)
		o.Local(2, id)
	}
	if n := len(o.set); n != 0 {
		t.Errorf("%d things are kept", n)
	}
}

// What is answered may be written over, spare room too: the options go on as they would.
func TestRule3ListsAreTheirCallers(t *testing.T) {
	p := scattered(t)
	for range 3 {
		for scope := 1; scope <= 4; scope++ {
			for _, id := range []int{0, 1, 2} {
				list := p.options.Local(scope, id)
				for i := range list[:cap(list)] {
					list[:cap(list)][i] = api.Setting{Scope: 9, Id: 9, Name: "spoilt", Value: "spoilt"}
				}
			}
		}
		names := Names()
		for i := range names[:cap(names)] {
			names[:cap(names)][i] = "spoilt"
		}
		if slices.Contains(Names(), "spoilt") || Scope("spoilt") != 0 {
			t.Error("the names are spoilt")
		}
		p.look()
	}
}

// What was answered stays as it was, whatever comes.
func TestRule3AnswersStay(t *testing.T) {
	o, d := New(), dealt(11)
	var kept []func() bool
	for range 400 {
		c := d.deal()
		c.on(o)
		value, _ := o.Get(d.row().name, d.Intn(4), d.Intn(4), d.Intn(4))
		list, names := o.Local(c.scope, c.id), Names()
		valueCopy, listCopy, namesCopy := strings.Clone(value), slices.Clone(list), slices.Clone(names)
		for i, s := range listCopy {
			listCopy[i].Name, listCopy[i].Value = strings.Clone(s.Name), strings.Clone(s.Value)
		}
		kept = append(kept, func() bool {
			return value == valueCopy && slices.Equal(list, listCopy) && slices.Equal(names, namesCopy)
		})
	}
	for n, same := range kept {
		if !same() {
			t.Errorf("answer %d has changed", n)
		}
	}
}

// stretch is some memory.
type stretch struct{ from, behind uintptr }

func stretchOf[T any](list []T) stretch {
	var one T
	from := uintptr(unsafe.Pointer(unsafe.SliceData(list)))
	return stretch{from, from + uintptr(cap(list))*unsafe.Sizeof(one)}
}

func textStretch(text string) stretch {
	from := uintptr(unsafe.Pointer(unsafe.StringData(text)))
	return stretch{from, from + uintptr(len(text))}
}

func wantApart(t *testing.T, all []stretch) {
	t.Helper()
	for i, x := range all {
		for j, y := range all[:i] {
			if x.from < y.behind && y.from < x.behind {
				t.Errorf("the answers %d and %d share memory", j, i)
			}
		}
	}
}

// No two lists that are answered share memory, spare room too; nor do they with those of other options.
func TestRule3ListsAreNewMemory(t *testing.T) {
	a, b := scattered(t).options, scattered(t).options
	var parts []stretch
	var lists [][]api.Setting
	var names [][]string
	for range 3 {
		lists = append(lists, a.Local(2, 1), a.Local(2, 2), a.Local(3, 1), a.Local(4, 0), a.Local(1, 0), b.Local(2, 1), b.Local(2, 2))
		names = append(names, Names(), Names())
	}
	for _, l := range lists {
		parts = append(parts, stretchOf(l))
	}
	for _, n := range names {
		parts = append(parts, stretchOf(n))
	}
	wantApart(t, parts)
	runtime.KeepAlive(lists)
	runtime.KeepAlive(names)
}

// The texts that are set are told as new memory, each time.
func TestRule3TextsAreNewMemory(t *testing.T) {
	o := New()
	handed := strings.Clone("a text of some length")
	o.Set(2, 1, "status-left", handed)
	var texts []string
	for range 3 {
		value, _ := o.Get("status-left", 1, 0, 0)
		listed := o.Local(2, 1)[0]
		texts = append(texts, value, listed.Name, listed.Value)
	}
	parts := []stretch{textStretch(handed)}
	for _, text := range texts {
		parts = append(parts, textStretch(text))
	}
	for at, h := range o.set {
		parts = append(parts, textStretch(at.name), textStretch(h.value))
	}
	wantApart(t, parts)
	runtime.KeepAlive(texts)
}

// loose is a text in memory that is written over later.
func loose(text string) (string, func()) {
	memory := []byte(text)
	return unsafe.String(unsafe.SliceData(memory), len(memory)), func() {
		for i := range memory {
			memory[i] = '!'
		}
	}
}

// The texts that are handed in are written over behind each call: what is kept, and what is told, was copied.
func TestRule3NothingHandedInIsKept(t *testing.T) {
	p := begun(t)
	for range 2 {
		for _, r := range sheet {
			for _, verb := range calls[:3] {
				for _, scope := range scopesOf(r) {
					name, spoilName := loose(r.name)
					value, spoilValue := loose(good(r))
					c := deal{verb, scope, 0, name, value}
					got := c.on(p.options)
					told, _ := p.options.Get(name, 0, 0, 0)
					toldCopy := strings.Clone(told)
					listed := p.options.Local(scope, 0)
					spoilName()
					spoilValue()
					if want := p.book.do(verb, scope, 0, r.name, good(r)); got != want || told != toldCopy || !slices.Equal(listed, p.book.local(scope, 0)) {
						t.Errorf("%s of %s answers %d, and not %d; told was %.60q, %s", verb, r.name, got, want, told, shortList(listed))
					}
					p.look()
				}
			}
		}
	}
	for _, r := range sheet {
		name, spoil := loose(r.name)
		p.options.Unset(r.scope, 0, name)
		spoil()
		p.book.unset(r.scope, 0, r.name)
		p.look()
	}
}

func (b *book) do(verb string, scope, id int, name, value string) api.Errno {
	switch verb {
	case "Set":
		return b.set(scope, id, name, value)
	case "Add":
		return b.add(scope, id, name, value)
	}
	return b.turn(scope, id, name)
}

// Two that are used in turns do not know of one another.
func TestRule4TwoInTurns(t *testing.T) {
	for seed := range 4 {
		a, b := begun(t), filled(t, 490*(seed%2))
		da, db := dealt(4000+seed), dealt(5000+seed)
		for range 40 {
			a.chance(da)
			b.look().chance(db)
			a.look()
		}
		b.look()
	}
}

// Many at once, from many goroutines, tell what each tells alone.
func TestRule4ManyAtOnce(t *testing.T) {
	var work sync.WaitGroup
	for worker := range 8 {
		p, d := begun(t), dealt(6000+worker%2)
		work.Go(func() {
			for range 300 {
				p.chance(d)
				Names()
			}
			p.look()
		})
	}
	work.Wait()
}
