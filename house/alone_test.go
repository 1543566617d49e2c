package house

import (
	"math"
	"runtime"
	"slices"
	"strings"
	"sync"
	"testing"
	"time"
	"unsafe"

	"mullion/api"
)

// Every call ends, whatever the bytes of a text are.
func TestRule1AnyTexts(t *testing.T) {
	for i := range times(256) {
		for j := range 256 {
			two := string([]byte{byte(i), byte(j)})
			for _, text := range []string{two, begin + two, begin + "input 1 " + two} {
				if got, want := parse(text), read(text); got.String() != want.String() {
					t.Fatalf("Parse(%q):\n%s\nand not\n%s", text, got, want)
				}
			}
		}
	}
	a := newAuthor(11)
	for range times(300) {
		c, l := deal(int64(a.Intn(1000)), 12)
		text := a.spoilt(a.loose(c, l))
		told, n, err := Run(text)
		if want := read(text); n != want.n || want.err != api.OK && (err != want.err || told != "") {
			t.Fatalf("Run(%q): %q, line %d, error %d", text, told, n, err)
		}
	}
}

// extremes are entries with every kind and all that numbers and texts may be.
func extremes() []api.Entry {
	numbers := []int{math.MinInt, -1, 0, 1, 4, 5, api.MaxLimit + 1, api.MaxNumber, api.MaxNumber + 1, math.MaxInt}
	texts := []string{"", "new\n", strings.Repeat("x\n", api.MaxChunk/2), strings.Repeat("\xff", api.MaxChunk+1)}
	var l []api.Entry
	for _, kind := range []int{math.MinInt, -1, 0, 1, 2, 3, 4, 5, 6, 7, 8, 9, 10, 11, 12, math.MaxInt} {
		for i, n := range numbers {
			l = append(l, api.Entry{Kind: kind, Client: n, Pane: n, N: numbers[(i+3)%len(numbers)], Text: texts[i%len(texts)]})
		}
	}
	return l
}

// Every call ends, whatever entries and configurations are handed in.
func TestRule1AnyEntries(t *testing.T) {
	l := extremes()
	a := newAuthor(12)
	for _, n := range []int{math.MinInt, -1, 0, 1, 80, 1000, 1001, api.MaxNumber, math.MaxInt} {
		for _, c := range []api.Config{{W: n, H: 24, Tail: 100}, {W: 80, H: n, Tail: 100}, {W: 80, H: 24, Tail: n}} {
			a.Shuffle(len(l), func(i, j int) { l[i], l[j] = l[j], l[i] })
			got, err := Play(c, l)
			if want, wantErr := played(c, l); got != want || err != wantErr {
				t.Errorf("Play(%v): error %d, and not %d: %s", c, err, wantErr, differing(got, want))
			}
			if got, err := Print(c, l); got != "" || err != api.ErrScript {
				t.Errorf("Print(%v): %d bytes, error %d", c, len(got), err)
			}
		}
	}
}

// written is a text in memory of its own, that can be written over.
type written struct{ memory []byte }

func (w *written) text(s string) string {
	w.memory = append(make([]byte, 0, len(s)+1), s...)
	return unsafe.String(unsafe.SliceData(w.memory), len(s))
}

// spoil writes over the bytes.
func (w *written) spoil() {
	for i := range w.memory {
		w.memory[i] = '\n'
	}
}

// The bytes of a text that was read are written over: what was answered stays.
func TestRule3NothingOfATextIsKept(t *testing.T) {
	a := newAuthor(13)
	for range times(2000) {
		text := a.loose(a.config(), a.entries())
		w := &written{}
		got := parse(w.text(text))
		w.spoil()
		if want := read(text); got.String() != want.String() {
			t.Fatalf("Parse(%q), which is written over:\n%s\nand not\n%s", text, got, want)
		}
	}
	for _, x := range examples {
		w := &written{}
		got, _, _ := Run(w.text(x.script))
		if w.spoil(); got != x.want {
			t.Errorf("%s, which is written over: %s", x.name, got)
		}
	}
}

// lent is entries whose texts are memory that can be written over.
func lent(l []api.Entry) ([]api.Entry, func()) {
	own := make([]api.Entry, len(l), len(l)+3)
	texts := make([]written, len(l))
	for i, e := range l {
		own[i] = e
		own[i].Text = texts[i].text(e.Text)
	}
	return own, func() {
		clear(own)
		for i := range texts {
			texts[i].spoil()
		}
	}
}

// What is handed in stays as it was, its spare room too; and what was answered stays when that is written over.
func TestRule3Entries(t *testing.T) {
	a := newAuthor(14)
	for seed := range int64(30) {
		c, l := deal(6000+seed, 50)
		own, spoil := lent(l)
		got, err := Play(c, own)
		if spare := own[:cap(own)]; !slices.Equal(own, l) || !slices.Equal(spare[len(l):], make([]api.Entry, 3)) {
			t.Fatalf("Play has changed its entries")
		}
		if spoil(); err != api.OK {
			t.Fatalf("error %d", err)
		}
		if want, _ := played(c, l); got != want {
			t.Fatalf("seed %d: %s", seed, differing(got, want))
		}
		c, l = a.config(), a.entries()
		own, spoil = lent(l)
		text, err := Print(c, own)
		if spare := own[:cap(own)]; !slices.Equal(own, l) || !slices.Equal(spare[len(l):], make([]api.Entry, 3)) || err != api.OK {
			t.Fatalf("Print has changed its entries, or error %d", err)
		}
		if spoil(); text != printed(c, l...) {
			t.Fatalf("what was printed has become %q", text)
		}
	}
}

// Entries that were read are their caller's: they may be written over, spare room too.
func TestRule3EntriesThatWereRead(t *testing.T) {
	text := begin + strings.Repeat("input 1 abc\n", 5)
	first, second := parse(text), parse(text)
	for i := range first.l[:cap(first.l)] {
		first.l[:cap(first.l)][i] = api.Entry{Kind: 9, Text: "spoilt"}
	}
	if want := read(text).String(); second.String() != want || parse(text).String() != want {
		t.Errorf("%s, and not %s", second, want)
	}
	for i, e := range second.l {
		for _, other := range second.l[i+1:] {
			if unsafe.StringData(e.Text) == unsafe.StringData(other.Text) {
				t.Error("two texts are the same memory")
			}
		}
	}
}

// The same run played twice, and another one between, tells the same.
func TestRule4Twice(t *testing.T) {
	for seed := range int64(15) {
		c, l := deal(8000+seed, 120)
		first, _ := Play(c, l)
		otherC, other := deal(8100+seed, 120)
		between, _ := Play(otherC, other)
		parse(oddText(seed))
		if again, err := Play(c, l); again != first || err != api.OK {
			t.Errorf("seed %d: %s", seed, differing(again, first))
		}
		if again, err := Play(otherC, other); again != between || err != api.OK {
			t.Errorf("seed %d, the other one: %s", seed, differing(again, between))
		}
	}
}

// oddText is a text that has nothing to do with anything.
func oddText(seed int64) string {
	a := newAuthor(seed)
	return a.spoilt(a.loose(a.config(), a.entries()))
}

// Many runs at once, from many goroutines, tell what each tells alone.
func TestRule4ManyAtOnce(t *testing.T) {
	type run struct {
		c    api.Config
		l    []api.Entry
		want string
	}
	var runs []run
	for seed := range int64(8) {
		c, l := deal(9000+seed, 80)
		want, _ := played(c, l)
		runs = append(runs, run{c, l, want})
	}
	var all sync.WaitGroup
	for worker := range 8 {
		all.Go(func() {
			for i := range 3 * len(runs) {
				r := runs[(worker+i)%len(runs)]
				if got, err := Play(r.c, r.l); got != r.want || err != api.OK {
					t.Errorf("error %d: %s", err, differing(got, r.want))
				}
			}
			for _, x := range examples {
				if got, n, err := Run(x.script); got != x.want || n != 0 || err != api.OK {
					t.Errorf("%s: line %d, error %d", x.name, n, err)
				}
			}
		})
	}
	all.Wait()
}

// When a call has answered all goroutines have ended, whether clients have gone, are closed, behind or attached again, and with an error.
func TestNoGoroutineIsLeft(t *testing.T) {
	were := runtime.NumGoroutine()
	for seed := range int64(20) {
		c, l := deal(9500+seed, 100)
		Play(c, l)
		Play(api.Config{}, l)
	}
	for _, x := range examples {
		Run(x.script)
		Run(x.script + "nothing\n")
	}
	for range 200 { // the last deeds of a goroutine may come a little behind its word that it is done
		if runtime.NumGoroutine() <= were {
			return
		}
		time.Sleep(10 * time.Millisecond)
	}
	t.Errorf("%d goroutines, and there were %d", runtime.NumGoroutine(), were)
}
