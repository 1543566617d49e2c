package plan

import (
	"math"
	"math/rand"
	"slices"
	"strings"
	"sync"
	"testing"
	"unsafe"

	"mullion/api"
	"mullion/layout"
)

func TestRule1EveryCallEnds(t *testing.T) {
	numbers := []int{math.MinInt, -1, 0, 1, 2, 3, 5, 80, 1000, 1001, api.MaxNumber, api.MaxNumber + 1, math.MaxInt}
	r := rand.New(rand.NewSource(6))
	some := func() int { return numbers[r.Intn(len(numbers))] }
	for range 3000 {
		l := make([]api.Cell, r.Intn(9))
		for i := range l {
			l[i] = api.Cell{Depth: r.Intn(i + 1), Kind: some(), X: some(), Y: some(), W: some(), H: some(), Pane: some()}
		}
		panes := make([]int, r.Intn(6))
		for i := range panes {
			panes[i] = some()
		}
		if s, e := Text(l); e != api.OK && s != "" {
			t.Fatalf("beside error %d: %q", e, s)
		}
		if m, e := Repane(l, panes); e != api.OK && m != nil {
			t.Fatalf("beside error %d: %v", e, m)
		}
		text := make([]byte, r.Intn(40))
		for i := range text {
			text[i] = "0123456789x,{}[]abcdef"[r.Intn(22)]
		}
		checkParse(t, string(text))
		checkParse(t, summed(string(text)))
	}
	deep := make([]api.Cell, 1<<16)
	for i := range deep {
		deep[i] = api.Cell{Depth: i, Kind: row + i%2, W: 1, H: 1}
	}
	if s, e := Text(deep); s != "" || e != api.ErrLayout {
		t.Errorf("Text: error %d", e)
	}
	if l, e := Repane(deep, make([]int, 1<<16)); l != nil || e != api.ErrLayout {
		t.Errorf("Repane: error %d", e)
	}
	if l, e := Parse(strings.Repeat("1x1,0,0{", 1<<16)); l != nil || e != api.ErrLong {
		t.Errorf("Parse: error %d", e)
	}
}

// sharesMemory asks for the spare room too.
func sharesMemory[T, U any](a []T, b []U) bool {
	if cap(a) == 0 || cap(b) == 0 {
		return false
	}
	beginA, beginB := uintptr(unsafe.Pointer(unsafe.SliceData(a))), uintptr(unsafe.Pointer(unsafe.SliceData(b)))
	endA, endB := beginA+uintptr(cap(a))*unsafe.Sizeof(a[:1][0]), beginB+uintptr(cap(b))*unsafe.Sizeof(b[:1][0])
	return beginA < endB && beginB < endA
}

// roomy is a list with spare room behind it, filled with what must stay.
func roomy[T any](l []T, more T) []T {
	m := slices.Clone(l)
	for range 20 {
		m = append(m, more)
	}
	return m[:len(l)]
}

func TestRule3ArgumentsStayAsTheyAre(t *testing.T) {
	lists := append(brokenLayouts(t), run(t, 5, 100)...)
	for _, of := range lists {
		l := roomy(of, api.Cell{Depth: 5, Kind: 6, X: 7, Y: 8, W: 9, H: 10, Pane: 11})
		panes := roomy(layout.Panes(of), 12)
		wholeList, wholePanes := slices.Clone(l[:cap(l)]), slices.Clone(panes[:cap(panes)])
		slices.Reverse(panes)
		slices.Reverse(wholePanes[:len(panes)])
		Text(l)
		got, _ := Repane(l, panes)
		Repane(l, panes[:len(panes)/2])
		if !slices.Equal(l[:cap(l)], wholeList) || !slices.Equal(panes[:cap(panes)], wholePanes) {
			t.Fatalf("what was handed in is now %v and %v", l[:cap(l)], panes[:cap(panes)])
		}
		if sharesMemory(got, l) || sharesMemory(got, panes) {
			t.Fatal("an answer lies in the memory of what was handed in")
		}
		// Nor is anything kept of it: it may change later.
		kept := slices.Clone(got)
		clear(l[:cap(l)])
		clear(panes[:cap(panes)])
		if !slices.Equal(got, kept) {
			t.Fatal("the answer has changed with what was handed in")
		}
	}
}

func TestRule3AnswersShareNothing(t *testing.T) {
	for _, l := range run(t, 6, 60) {
		s, _ := Text(l)
		panes := layout.Panes(l)
		var answers [][]api.Cell
		for range 2 {
			parsed, _ := Parse(s)
			repaned, _ := Repane(l, panes)
			answers = append(answers, parsed, repaned)
		}
		for i, one := range answers {
			for _, other := range answers[i+1:] {
				if sharesMemory(one, other) {
					t.Fatal("two answers share memory")
				}
			}
		}
		for i, one := range answers {
			if !slices.Equal(one, l) {
				t.Fatalf("answer %d is %v, not %v", i, one, l)
			}
			clear(one[:cap(one)])
		}
		again, e := Parse(s)
		if e != api.OK || !slices.Equal(again, l) {
			t.Fatal("a change of one answer is seen in the next one")
		}
	}
}

// All calls at once, from many goroutines, answer what each answers alone; one that gives up too.
func TestRule4AnswersHangOnArgumentsAlone(t *testing.T) {
	lists := run(t, 7, 60)
	texts := make([]string, len(lists))
	for i, l := range lists {
		texts[i], _ = Text(l)
	}
	var all sync.WaitGroup
	for turn := range 8 {
		all.Go(func() {
			for i := range lists {
				at := (i*7 + turn*13) % len(lists)
				if _, e := Parse(summed(texts[at])); e != api.ErrPlan {
					t.Errorf("Parse of what is no body: error %d", e)
				}
				l, e := Parse(texts[at])
				if e != api.OK || !slices.Equal(l, lists[at]) {
					t.Errorf("Parse(%q) answers otherwise beside others", texts[at])
				}
				if s, e := Text(lists[at]); s != texts[at] || e != api.OK {
					t.Errorf("Text answers %q beside others, not %q", s, texts[at])
				}
				if l, e := Repane(lists[at], layout.Panes(lists[at])); e != api.OK || !slices.Equal(l, lists[at]) {
					t.Error("Repane answers otherwise beside others")
				}
			}
		})
	}
	all.Wait()
}
