package buffers

import (
	"math"
	"runtime"
	"slices"
	"strconv"
	"strings"
	"sync"
	"testing"
	"unsafe"

	"mullion/api"
)

// Every call ends at all arguments, also at such that make no sense.
func TestRule1AnyArguments(t *testing.T) {
	texts := []string{"", "a", "n0", "buffer0", "buffer5", "\x00", "\xff\xfe", "\n", "\x1b[201~", " ", strings.Repeat("x", 32), strings.Repeat("9", 1<<16), strings.Repeat("\n", 1<<16+1)}
	numbers := []int{math.MinInt, -1, 0, 1, 2, 7, 19, 20, 21, 1 << 32, math.MaxInt}
	for _, p := range []*pair{begun(t), stacked(t, "", "a", "", "b"), fullOf(t, make([]string, 20)...)} {
		for _, x := range texts {
			for _, y := range texts {
				p.call(call{"Set", x, y}).call(call{"Rename", x, y}).get(x).get(y)
				if len(x)*len(y) < 1<<21 {
					for _, bracket := range []bool{false, true} {
						if Paste(x, y, bracket) != pasted(x, y, bracket) {
							t.Errorf("Paste(%.40q, %.40q, %v)", x, y, bracket)
						}
					}
				}
			}
			p.call(call{"Delete", x, ""})
		}
		p.probe()
		for _, n := range numbers {
			p.call(call{"Limit", "", strconv.Itoa(n)})
		}
		p.probe()
	}
}

// What is refused, taken away, pushed out or written over leaves nothing behind.
func TestRule1NothingGrows(t *testing.T) {
	b := New()
	for i := range 20000 {
		b.Set("", "x")
		b.Set("n"+strconv.Itoa(i), "y")
		b.Rename("", "n"+strconv.Itoa(i/2))
		b.Get("")
		if i%3 == 0 {
			b.Delete("n" + strconv.Itoa(i))
		}
	}
	if n := len(b.stack); n > 40 || cap(b.stack) > 200 || len(b.List()) != n {
		t.Errorf("%d are kept, with room for %d", n, cap(b.stack))
	}
	for range 40 {
		b.Delete("")
	}
	for _, k := range b.stack[:cap(b.stack)] {
		if k != (kept{}) {
			t.Errorf("%v is kept in the spare room", k)
		}
	}
}

// What is answered may be written over, spare room too: the buffers go on as they would.
func TestRule3ListsAreTheirCallers(t *testing.T) {
	p, d := fullOf(t, "", "a", "", ""), dealt(3)
	for range 200 {
		list := p.buffers.List()
		for i := range list[:cap(list)] {
			list[:cap(list)][i] = api.Buffer{Name: "spoilt", Text: "spoilt"}
		}
		p.look().chance(d)
	}
	p.probe()
}

// A list has no spare room: what a caller joins to it lies elsewhere.
func TestRule3ListsHaveNoSpareRoom(t *testing.T) {
	p := begun(t)
	for i := range 45 {
		list := p.buffers.List()
		if cap(list) != len(list) {
			t.Errorf("a list of %d has room for %d", len(list), cap(list))
		}
		one := append(list, api.Buffer{Name: "one"})
		other := append(list, api.Buffer{Name: "other"})
		if one[len(list)].Name != "one" || other[len(list)].Name != "other" {
			t.Errorf("what is joined to a list of %d shares memory", len(list))
		}
		if i%2 == 0 {
			p.lay("", "x")
		} else if len(p.book.named()) < 20 {
			p.lay("n"+strconv.Itoa(i), "y")
		}
		p.look()
	}
}

// What was answered stays as it was, whatever comes.
func TestRule3AnswersStay(t *testing.T) {
	p, d := begun(t), dealt(7)
	var same []func() bool
	for range 300 {
		p.chance(d)
		list := p.buffers.List()
		one, _ := p.buffers.Get("")
		name, _ := p.buffers.Set("n5", "text of n5")
		p.book.set("n5", "text of n5")
		listCopy, oneCopy, nameCopy := slices.Clone(list), fresh(one), strings.Clone(name)
		for i, b := range listCopy {
			listCopy[i] = api.Buffer{Name: strings.Clone(b.Name), Text: strings.Clone(b.Text)}
		}
		same = append(same, func() bool { return slices.Equal(list, listCopy) && one == oneCopy && name == nameCopy })
	}
	for n, is := range same {
		if !is() {
			t.Errorf("answer %d has changed", n)
		}
	}
}

// stretch is some memory.
type stretch struct{ from, behind uintptr }

func listStretch(list []api.Buffer) stretch {
	from := uintptr(unsafe.Pointer(unsafe.SliceData(list)))
	return stretch{from, from + uintptr(cap(list))*unsafe.Sizeof(api.Buffer{})}
}

func textStretch(text string) stretch {
	from := uintptr(unsafe.Pointer(unsafe.StringData(text)))
	return stretch{from, from + uintptr(len(text))}
}

func wantApart(t *testing.T, all []stretch) {
	t.Helper()
	for i, x := range all {
		for j, y := range all[:i] {
			if x.from < y.behind && y.from < x.behind {
				t.Errorf("the parts %d and %d share memory", j, i)
			}
		}
	}
}

// Nothing that is handed in, kept or told shares memory with anything else of it.
func TestRule3AnswersAreNewMemory(t *testing.T) {
	b, other := New(), New()
	var texts []string
	var lists [][]api.Buffer
	tell := func(one api.Buffer) { texts = append(texts, one.Name, one.Text) }
	for i := range 6 {
		for _, one := range []*Buffers{b, other} {
			name, text := strings.Clone("some-name-"+strconv.Itoa(i/2)), strings.Clone("a text of some length")
			if i%3 == 0 {
				name = ""
			}
			answer, _ := one.Set(name, text)
			to := strings.Clone("another-name-" + strconv.Itoa(i))
			one.Rename(answer, to)
			got, _ := one.Get("")
			byName, _ := one.Get(to)
			list := one.List()
			texts = append(texts, name, text, answer, to)
			lists = append(lists, list, one.List())
			for _, buffer := range append(list, got, byName) {
				tell(buffer)
			}
		}
	}
	for _, one := range []*Buffers{b, other} {
		for _, k := range one.stack {
			tell(k.Buffer)
		}
	}
	var parts []stretch
	for _, text := range texts {
		parts = append(parts, textStretch(text))
	}
	for _, list := range lists {
		parts = append(parts, listStretch(list))
	}
	wantApart(t, parts)
	runtime.KeepAlive(texts)
	runtime.KeepAlive(lists)
}

// What Paste answers is new memory, also where it is the text as it was handed in.
func TestRule3PasteIsNewMemory(t *testing.T) {
	for _, text := range []string{"a text without any", "a text\nwith one", "\n", "", "\x1b[201~", "\x1b[201~rest of it"} {
		for _, between := range []string{"", "between", "\n"} {
			for _, bracket := range []bool{false, true} {
				text, between := strings.Clone(text), strings.Clone(between)
				one, other := Paste(text, between, bracket), Paste(text, between, bracket)
				wantApart(t, []stretch{textStretch(text), textStretch(between), textStretch(one), textStretch(other)})
				runtime.KeepAlive([]string{text, between, one, other})
			}
		}
	}
}

// loose is a text in memory that is written over later.
func loose(text string) (string, func()) {
	memory := []byte(text)
	return unsafe.String(unsafe.SliceData(memory), len(memory)), func() {
		for i := range memory {
			memory[i] = '!'
		}
	}
}

// The texts that are handed in are written over behind each call: what is kept, and what was told, was copied.
func TestRule3NothingHandedInIsKept(t *testing.T) {
	p, d := begun(t), dealt(9)
	for range 600 {
		c := d.deal(p.book.every(), p.book.counter)
		name, spoilName := loose(c.name)
		text, spoilText := loose(c.text)
		got, err := call{c.verb, name, text}.on(p.buffers)
		if name != c.name || text != c.text {
			t.Fatalf("%v has changed what was handed in", c)
		}
		spoilName()
		spoilText()
		if want, model := c.onBook(p.book); got != want || err != model {
			t.Fatalf("%v is %q, %d, and not %q, %d", c, got, err, want, model)
		}
		if p.look(); t.Failed() {
			return
		}
	}
	text, spoilText := loose("a text without any")
	between, spoilBetween := loose("between")
	plain, marked, joined := Paste(text, between, false), Paste(text, between, true), Paste("\n", between, false)
	spoilText()
	spoilBetween()
	if plain != "a text without any" || marked != first+"a text without any"+mark || joined != "between" {
		t.Errorf("what was pasted has changed: %q, %q, %q", plain, marked, joined)
	}
}

// Two that are used in turns do not know of one another.
func TestRule4TwoInTurns(t *testing.T) {
	for seed := range 6 {
		a, b := begun(t), fullOf(t, make([]string, 3*seed)...)
		da, db := dealt(4000+seed), dealt(5000+seed)
		for range 200 {
			a.chance(da)
			b.look().chance(db)
			a.look()
		}
		a.probe()
		b.probe()
	}
}

// What is called in between on others, and without an object, makes no difference.
func TestRule4SameCallsSameAnswers(t *testing.T) {
	a, b, d := New(), New(), dealt(8)
	for i := range 500 {
		var names []string
		for _, one := range a.List() {
			names = append(names, one.Name)
		}
		c := d.deal(names, i/4)
		nameA, errA := c.on(a)
		New().Set("", "x")
		Paste("a\nb", "\r", i%2 == 0)
		nameB, errB := c.on(b)
		if nameA != nameB || errA != errB || !slices.Equal(a.List(), b.List()) {
			t.Fatalf("%v is %q, %d and %q, %d", c, nameA, errA, nameB, errB)
		}
	}
}

// Many at once, from many goroutines, tell what each tells alone.
func TestRule4ManyAtOnce(t *testing.T) {
	var work sync.WaitGroup
	for worker := range 8 {
		p, d := begun(t), dealt(6000+worker%2)
		work.Go(func() {
			for range 200 {
				p.chance(d)
				Paste("a\nb", "\r", true)
			}
			p.probe()
		})
	}
	work.Wait()
}
