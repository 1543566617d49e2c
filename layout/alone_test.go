package layout

import (
	"math"
	"math/rand"
	"slices"
	"sync"
	"testing"
	"unsafe"

	"mullion/api"
)

// answer is what one call gave, of whatever form.
type answer struct {
	l    []api.Cell
	ids  []int
	a, b int
	ok   bool
	e    api.Errno
}

func same(a, b answer) bool {
	return slices.Equal(a.l, b.l) && slices.Equal(a.ids, b.ids) && a.a == b.a && a.b == b.b && a.ok == b.ok && a.e == b.e
}

// allCalls is every call on a list, with these arguments.
func allCalls(x, y, z int, before bool) []func(l []api.Cell) answer {
	list := func(l []api.Cell, e api.Errno) answer { return answer{l: l, e: e} }
	found := func(a int, ok bool) answer { return answer{a: a, ok: ok} }
	return []func(l []api.Cell) answer{
		func(l []api.Cell) answer { return answer{e: Check(l)} },
		func(l []api.Cell) answer { return list(New(x, y, z)) },
		func(l []api.Cell) answer { return answer{ids: Panes(l)} },
		func(l []api.Cell) answer { return found(Find(l, x)) },
		func(l []api.Cell) answer { return found(At(l, x, y)) },
		func(l []api.Cell) answer { w, h, e := Least(l); return answer{a: w, b: h, e: e} },
		func(l []api.Cell) answer { return list(Split(l, x, y, z, before, 99)) },
		func(l []api.Cell) answer { return list(Split(l, x, row, y, before, z)) },
		func(l []api.Cell) answer { return list(Full(l, x, y, before, z)) },
		func(l []api.Cell) answer { return list(Full(l, col, x, before, y)) },
		func(l []api.Cell) answer { return list(Close(l, x)) },
		func(l []api.Cell) answer { return list(Resize(l, x, y)) },
		func(l []api.Cell) answer { return list(Resize(l, 100, 90)) },
		func(l []api.Cell) answer { m, n, e := Push(l, x, y, z); return answer{l: m, a: n, e: e} },
		func(l []api.Cell) answer { return list(Set(l, x, y, z)) },
		func(l []api.Cell) answer { return list(Swap(l, x, y)) },
		func(l []api.Cell) answer { return list(Arrange(l, x, y)) },
		func(l []api.Cell) answer { n, e := Next(l, x, y); return answer{a: n, e: e} },
		func(l []api.Cell) answer { return found(Beside(l, x, y)) },
	}
}

var numbers = []int{math.MinInt, math.MinInt + 1, -1001, -1, 0, 1, 2, 3, 4, 5, 7, 1000, 1001, api.MaxNumber, api.MaxNumber + 1, math.MaxInt}

// wild is lists of any cells at all.
func wild(n int) [][]api.Cell {
	r := rand.New(rand.NewSource(4))
	some := func() int { return numbers[r.Intn(len(numbers))] }
	lists := [][]api.Cell{nil, {}}
	for range n {
		l := make([]api.Cell, r.Intn(12))
		for i := range l {
			l[i] = api.Cell{Depth: r.Intn(i+1) % 4, Kind: 1 + r.Intn(3), X: some(), Y: some(), W: some(), H: some(), Pane: some()}
			if r.Intn(5) == 0 {
				l[i].Depth, l[i].Kind = some(), some()
			}
		}
		lists = append(lists, l)
	}
	// Far more cells, and far deeper, than any layout has.
	deep := make([]api.Cell, 1<<16)
	for i := range deep {
		deep[i] = api.Cell{Depth: i, Kind: row + i%2, W: 1, H: 1}
	}
	return append(lists, deep)
}

func TestRule1EveryCallEnds(t *testing.T) {
	lists := append(wild(300), deep().list(), pn(1, 1, 1).list(), staircase().list(), manyPanes(api.MaxPanes).list())
	r := rand.New(rand.NewSource(5))
	some := func() int { return numbers[r.Intn(len(numbers))] }
	for _, l := range lists {
		for range 20 {
			for _, call := range allCalls(some(), some(), some(), r.Intn(2) == 0) {
				got := call(l)
				if got.e != api.OK && !same(got, answer{e: got.e}) {
					t.Fatalf("beside error %d: %v", got.e, got)
				}
			}
		}
	}
}

// sharesMemory asks for the spare room too.
func sharesMemory[T, U any](a []T, b []U) bool {
	if cap(a) == 0 || cap(b) == 0 {
		return false
	}
	var t T
	var u U
	beginA, beginB := uintptr(unsafe.Pointer(unsafe.SliceData(a))), uintptr(unsafe.Pointer(unsafe.SliceData(b)))
	endA, endB := beginA+uintptr(cap(a))*unsafe.Sizeof(t), beginB+uintptr(cap(b))*unsafe.Sizeof(u)
	return beginA < endB && beginB < endA
}

// roomy is the list with spare room behind it, filled with cells that must stay.
func roomy(l []api.Cell) []api.Cell {
	m := slices.Clone(l)
	for range 20 {
		m = append(m, api.Cell{Depth: 5, Kind: 6, X: 7, Y: 8, W: 9, H: 10, Pane: 11})
	}
	return m[:len(l)]
}

func TestRule3ArgumentsStayAsTheyAre(t *testing.T) {
	for _, n := range goodTrees() {
		for x := range 6 {
			for y := range 5 {
				for _, call := range allCalls(x, y, 3, x%2 == 0) {
					l := roomy(n.list())
					whole := slices.Clone(l[:cap(l)])
					got := call(l)
					if !slices.Equal(l[:cap(l)], whole) {
						t.Fatalf("the list that was handed in is now%s", show(l[:cap(l)]))
					}
					if sharesMemory(got.l, l) || sharesMemory(got.ids, l) {
						t.Fatal("an answer lies in the memory of the list that was handed in")
					}
				}
			}
		}
	}
}

func TestRule3AnswersShareNothing(t *testing.T) {
	n := deep()
	for x := range 6 {
		for _, call := range allCalls(x, row, 3, false) {
			l := n.list()
			one, two := call(l), call(l)
			if sharesMemory(one.l, two.l) || sharesMemory(one.ids, two.ids) || sharesMemory(one.l, two.ids) {
				t.Fatal("two answers share memory")
			}
			kept := answer{slices.Clone(two.l), slices.Clone(two.ids), two.a, two.b, two.ok, two.e}
			clear(one.l[:cap(one.l)])
			clear(one.ids[:cap(one.ids)])
			if !same(two, kept) || !same(call(l), kept) {
				t.Fatal("a change of one answer is seen in another one")
			}
		}
	}
	// What was handed in may change later: nothing was kept of it.
	l := n.list()
	got, e := Split(l, 1, row, 0, false, 99)
	kept := slices.Clone(got)
	clear(l)
	if e != api.OK || !slices.Equal(got, kept) {
		t.Error("the answer has changed with the list that was handed in")
	}
}

// All calls at once, from many goroutines, answer what each answers alone.
func TestRule4AnswersHangOnArgumentsAlone(t *testing.T) {
	var calls []func(l []api.Cell) answer
	for x := range 5 {
		calls = append(calls, allCalls(x, row, 4, x%2 == 0)...)
	}
	l := deep().list()
	want := make([]answer, len(calls))
	for i, call := range calls {
		want[i] = call(l)
	}
	var all sync.WaitGroup
	for turn := range 8 {
		all.Go(func() {
			for i := range calls {
				at := (i*7 + turn*13) % len(calls)
				if got := calls[at](l); !same(got, want[at]) {
					t.Errorf("call %d answers otherwise beside others", at)
				}
			}
		})
	}
	all.Wait()
}
