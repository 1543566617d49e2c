package store

import (
	"fmt"
	"math"
	"math/rand"
	"runtime"
	"slices"
	"strings"
	"sync"
	"testing"
	"unsafe"

	"mullion/api"
)

// wild is a call whose numbers and texts are any.
func (d *dealer) wild(name string) call {
	number := func() int {
		return d.pick(math.MinInt, math.MinInt+1, -api.MaxNumber, -1001, -2, -1, 0, 1, 2, 3, 4, 5, 9, 31, 32, 33, 999, 1000, 1001, 9999, 10000, 65536, api.MaxNumber, api.MaxNumber+1, math.MaxInt-1, math.MaxInt)
	}
	text := func() string {
		return []string{"", "a", "sh", "a:b", "\x00", "é", strings.Repeat("n", 33), strings.Repeat("\n", 70000)}[d.r.Intn(8)]
	}
	c := call{name: name, a: number(), b: number(), c: number(), d: number(), text: text(), other: text(), yes: d.flag(), also: d.flag()}
	for range d.r.Intn(7) {
		c.cells = append(c.cells, api.Cell{Depth: d.pick(0, 1, 1, 2, number()), Kind: d.pick(1, 1, 2, 3, number()), X: d.pick(0, number()), Y: d.pick(0, number()), W: number(), H: number(), Pane: number()})
	}
	return c
}

func TestRule1EveryCallEnds(t *testing.T) {
	names := slices.Compact(slices.Sorted(slices.Values(callNames())))
	if len(names) != 29 { // and New, Clone, State, Config
		t.Fatalf("%d calls are known", len(names))
	}
	for seed := range 12 {
		d := newDesk(t, runConfigs()[seed%len(runConfigs())])
		deals := &dealer{r: rand.New(rand.NewSource(int64(seed))), b: d.b, closes: 3}
		for range seed * 20 {
			d.do(deals.deal())
		}
		for range 60 {
			for _, name := range names {
				d.do(deals.wild(name))
				d.do(deals.dealOf(name))
			}
		}
	}
}

// A list or a text with the memory that it lies in, spare room too.
type stretch struct {
	from, to uintptr
	what     string
}

func ofList[T any](what string, l []T) stretch {
	var one T
	from := uintptr(unsafe.Pointer(unsafe.SliceData(l)))
	return stretch{from, from + uintptr(cap(l))*unsafe.Sizeof(one), what}
}

func ofText(what, s string) stretch {
	from := uintptr(unsafe.Pointer(unsafe.StringData(s)))
	return stretch{from, from + uintptr(len(s)), what}
}

func ofState(what string, s api.State) []stretch {
	all := []stretch{ofList(what+": sessions", s.Sessions), ofList(what+": windows", s.Windows)}
	for _, x := range s.Sessions {
		all = append(all, ofList(fmt.Sprint(what, ": links of ", x.Id), x.Links), ofText(fmt.Sprint(what, ": name of session ", x.Id), x.Name))
	}
	for _, w := range s.Windows {
		all = append(all, ofList(fmt.Sprint(what, ": cells of ", w.Id), w.Cells), ofText(fmt.Sprint(what, ": name of window ", w.Id), w.Name))
	}
	return all
}

// ofStore is what a store keeps.
func ofStore(what string, s *Store) []stretch {
	var kept api.State
	for _, id := range s.sessions.ids() {
		kept.Sessions = append(kept.Sessions, *s.sessions.find(id))
	}
	for _, id := range s.windows.ids() {
		kept.Windows = append(kept.Windows, *s.windows.find(id))
	}
	return ofState(what, kept)[2:]
}

func wantApart(t *testing.T, all []stretch) {
	t.Helper()
	slices.SortFunc(all, func(a, b stretch) int {
		if a.from != b.from {
			return int(int64(a.from) - int64(b.from))
		}
		return int(int64(a.to) - int64(b.to))
	})
	behind := stretch{}
	for _, s := range all {
		if s.from == s.to {
			continue
		}
		if s.from < behind.to {
			t.Fatalf("%s shares memory with %s", s.what, behind.what)
		}
		behind = s
	}
}

func TestRule3AnswersAreNewMemory(t *testing.T) {
	for seed := range 30 {
		d := newDesk(t, runConfigs()[seed%len(runConfigs())])
		deals := &dealer{r: rand.New(rand.NewSource(int64(seed))), b: d.b, closes: 10}
		for range 20 {
			for range 20 {
				d.do(deals.deal())
			}
			stores := []*Store{d.s, d.s.Clone(), d.s.Clone().Clone()}
			states := []api.State{d.s.State(), d.s.State(), stores[1].State(), stores[2].State()}
			var all []stretch
			for i, x := range stores {
				all = append(all, ofStore(fmt.Sprint("what the store ", i, " keeps"), x)...)
			}
			for i, x := range states {
				all = append(all, ofState(fmt.Sprint("the state ", i), x)...)
			}
			wantApart(t, all)
			// What is not held any longer could be made again at the same place.
			runtime.KeepAlive(stores)
			runtime.KeepAlive(states)
		}
	}
}

// What State told is scribbled over: the store is as it was; and what was told earlier stays when the store goes on.
func TestRule3WhatWasToldIsNobodysElse(t *testing.T) {
	d := newDesk(t, api.Config{W: 80, H: 24, Tail: 20})
	deals := &dealer{r: rand.New(rand.NewSource(7)), b: d.b, closes: 10}
	var told []api.State
	var shown []string
	for range 500 {
		d.do(deals.deal())
		told = append(told, d.s.State())
		shown = append(shown, show(told[len(told)-1]))
		was := whole(d.s)
		s := d.s.State()
		for i := range s.Sessions {
			links := s.Sessions[i].Links
			s.Sessions[i].Links = append(links, links...)
			for j := range links[:cap(links)] {
				links[:cap(links)][j] = api.Link{Index: -7, Window: -7}
			}
		}
		for i := range s.Windows {
			cells := s.Windows[i].Cells
			for j := range cells[:cap(cells)] {
				cells[:cap(cells)][j] = api.Cell{Kind: 9, Pane: -7}
			}
		}
		clear(s.Sessions[:cap(s.Sessions)])
		clear(s.Windows[:cap(s.Windows)])
		if whole(d.s) != was {
			t.Fatal("what is written into a state that was told is seen at the store")
		}
	}
	for i, s := range told {
		if show(s) != shown[i] {
			t.Fatalf("a state that was told as\n%s\nhas become\n%s", shown[i], show(s))
		}
	}
}

// over is a text that lies in bytes which can be written over behind the call.
func over(memory []byte) string { return unsafe.String(unsafe.SliceData(memory), len(memory)) }

func TestRule3NothingHandedInIsKept(t *testing.T) {
	d := small(t)
	name := func(text string) []byte { return []byte(text) }
	texts := [][]byte{name("first"), name("window"), name("third"), name("fourth"), name("fifth"), name("some bytes"), name("some keys"), name("sixth")}
	d.all(call{name: "NewSession", text: over(texts[0]), other: over(texts[1])}, newSession("b"),
		call{name: "RenameSession", a: 2, text: over(texts[2])}, named(newWindow(1, -1), over(texts[3])),
		call{name: "RenameWindow", a: 2, text: over(texts[4])}, write(1, over(texts[5])), typeInto(1, over(texts[6])),
		splitRow(1), named(breakOut(4, 1, -1), over(texts[7])))
	// The book is told the names anew: it keeps what it is handed.
	was := strings.Clone(whole(d.s))
	cells := drawn(t, 80, 24, 7, 8)
	d.all(splitRow(3))
	d.must(lay(3, cells))
	laid := showCells(d.s.State().Windows[2].Cells)
	for i := range cells[:cap(cells)] {
		cells[:cap(cells)][i] = api.Cell{Kind: 9, Pane: -7}
	}
	if got := showCells(d.s.State().Windows[2].Cells); got != laid {
		t.Errorf("a layout that was handed in is kept: %s has become %s", laid, got)
	}
	if err := d.s.ClosePane(5); err != api.OK {
		t.Fatal(err)
	}
	ahead := d.s.Clone()
	for _, memory := range texts {
		for i := range memory {
			memory[i] = '!'
		}
	}
	if got := whole(d.s); strings.Contains(got, "!") || strings.Contains(whole(ahead), "!") || !strings.Contains(was, "fourth") {
		t.Errorf("a text that was handed in is kept:\n%s", got)
	}
}

func TestRule3ArgumentsStayAsTheyAre(t *testing.T) {
	d := threePanes(t)
	cells := drawn(t, 80, 24, 7, 8, 9)
	same := slices.Clone(cells)
	for _, window := range []int{1, 2} {
		d.do(lay(window, cells))
		d.do(lay(window, cells[:3]))
		if !slices.Equal(cells, same) {
			t.Fatalf("Lay has changed its list to %v", cells)
		}
	}
	d.all(swap(1, 2), splitRow(1), zoom(1), closePane(2))
	if !slices.Equal(cells, same) {
		t.Fatalf("a later call has changed the list of Lay to %v", cells)
	}
}

func TestRule4TwoInTurns(t *testing.T) {
	configs := runConfigs()
	for seed := range 10 {
		a, b := newDesk(t, configs[seed%5]), newDesk(t, configs[(seed+2)%5])
		dealA := &dealer{r: rand.New(rand.NewSource(int64(seed))), b: a.b, closes: 20}
		dealB := &dealer{r: rand.New(rand.NewSource(int64(seed + 100))), b: b.b, closes: 20}
		for range 300 {
			a.do(dealA.deal())
			b.do(dealB.deal())
			New(configs[0])
			a.s.Clone().NewSession("", "", 0, 0)
			b.s.State()
		}
		if got, want := show(a.s.State()), show(a.b.state()); got != want {
			t.Fatalf("%s\nwant\n%s", got, want)
		}
	}
}

// The same calls, made on stores of many goroutines at once, some of them on clones of one store, answer the same.
func TestRule4ManyAtOnce(t *testing.T) {
	first := newDesk(t, api.Config{W: 80, H: 24, Tail: 20})
	deals := &dealer{r: rand.New(rand.NewSource(3)), b: first.b, closes: 20}
	for range 200 {
		first.do(deals.deal())
	}
	var clones []*Store
	for range 8 {
		clones = append(clones, first.s.Clone())
	}
	var calls []call
	var answers []answer
	for range 600 {
		calls = append(calls, deals.deal())
		answers = append(answers, first.do(calls[len(calls)-1]))
	}
	want := whole(first.s)
	var all sync.WaitGroup
	for _, s := range clones {
		all.Go(func() {
			for i, c := range calls {
				if a := c.on(s); a != answers[i] {
					t.Errorf("%v answers %+v; want %+v", c, a, answers[i])
					return
				}
				if i%50 == 0 {
					s = s.Clone()
				}
			}
			if got := whole(s); got != want {
				t.Errorf("the same calls lead to\n%s\nwant\n%s", got, want)
			}
		})
	}
	all.Wait()
}
