package mirror

import (
	"fmt"
	"math/rand"
	"runtime"
	"strings"
	"sync"
	"testing"
	"unsafe"

	"mullion/api"
)

// Every call ends, whatever bytes are fed.
func TestRule1AnyBytes(t *testing.T) {
	for i := range 256 {
		for j := range 256 {
			text := string([]byte{byte(i), byte(j)})
			for _, ahead := range []string{"", "%", "%begin 1 1 1\n", "%exit\n"} {
				m := New()
				m.Feed(ahead + text)
				m.Feed("\n")
				ask(m)
			}
		}
	}
	r := rand.New(rand.NewSource(1))
	for range 3000 {
		p := begun(t)
		text := []byte(ended(greeting()...) + "%output %1 ab\n%begin 1 1 1\nx\n%end 1 1 1\n%pause %1 99\n")
		for range 1 + r.Intn(4) {
			text[r.Intn(len(text))] = byte(r.Intn(256))
		}
		p.feed(string(text[:r.Intn(len(text)+1)]))
		wantWord(p)
	}
}

// Questions of a mirror in every condition.
func TestRule1Questions(t *testing.T) {
	for _, text := range stories() {
		m := New()
		for i := range len(text) {
			m.Feed(text[i : i+1])
			ask(m)
		}
		m.Feed("")
		ask(m)
	}
}

// written is a text in memory of its own, that can be written over.
type written struct{ memory []byte }

func (w *written) text(s string) string {
	w.memory = append(make([]byte, 0, len(s)+1), s...)
	return unsafe.String(unsafe.SliceData(w.memory), len(s))
}

// spoil writes over the bytes.
func (w *written) spoil() {
	for i := range w.memory {
		w.memory[i] = '\n'
	}
}

// The bytes of what is fed are written over behind each Feed: what was kept of them was copied.
func TestRule3NothingHandedInIsKept(t *testing.T) {
	r := rand.New(rand.NewSource(2))
	texts := append(stories(), full(t).b.all)
	for seed := range int64(40) {
		w := newWriter(t, 7000+seed)
		w.write(40)
		texts = append(texts, w.b.all)
	}
	for _, text := range texts {
		for range 4 {
			m := New()
			for _, piece := range cutUp(r, text) {
				w := &written{}
				m.Feed(w.text(piece))
				w.spoil()
			}
			if got, want := ask(m), (book{text}).read(); !same(got, want) {
				t.Fatalf("%s leads to\n%+v\nand not to\n%+v", short(text), got, want)
			}
		}
	}
}

// stretch is some memory.
type stretch struct{ from, behind uintptr }

func stretchOf[T any](l []T) stretch {
	var one T
	from := uintptr(unsafe.Pointer(unsafe.SliceData(l)))
	return stretch{from, from + uintptr(cap(l))*unsafe.Sizeof(one)}
}

func stretchOfText(s string) stretch {
	from := uintptr(unsafe.Pointer(unsafe.StringData(s)))
	return stretch{from, from + uintptr(len(s))}
}

func share(a, b stretch) bool { return a.from < b.behind && b.from < a.behind }

// memoryOf is the memory of all lists and texts that are answered.
func memoryOf(a answers) []stretch {
	l := []stretch{
		stretchOf(a.state.Sessions), stretchOf(a.state.Windows), stretchOf(a.feeds), stretchOf(a.replies), stretchOf(a.messages),
		stretchOf(a.watched), stretchOfText(a.reason), stretchOfText(a.rest),
	}
	for _, x := range a.state.Sessions {
		l = append(l, stretchOf(x.Links), stretchOfText(x.Name))
	}
	for _, w := range a.state.Windows {
		l = append(l, stretchOf(w.Cells), stretchOfText(w.Name))
	}
	for _, f := range a.feeds {
		l = append(l, stretchOf(f.Gaps))
		if len(f.Text) > 1 { // a text of one byte is taken from a table of all of them
			l = append(l, stretchOfText(f.Text))
		}
	}
	for _, r := range a.replies {
		l = append(l, stretchOf(r.Body))
		for _, text := range r.Body {
			l = append(l, stretchOfText(text))
		}
	}
	for _, text := range a.messages {
		l = append(l, stretchOfText(text))
	}
	for _, e := range a.watched {
		l = append(l, stretchOfText(e.Name), stretchOfText(e.Text))
	}
	return l
}

// conditions are mirrors that have something of everything: while they go on, with a rest, ended, and broken.
func conditions(t *testing.T) map[string]*pair {
	t.Helper()
	return map[string]*pair{
		"going on": full(t), "ended": full(t).feed("age third\n%exit detached\n"), "broken": full(t).feed("age\n"),
		"in a block": full(t).feed("age third\n%begin 5 3 1\nfour\nfi"),
	}
}

// No two lists of what is answered share memory, nor any two answers.
func TestRule3AnswersAreNewMemory(t *testing.T) {
	for name, p := range conditions(t) {
		first, second := ask(p.m), ask(p.m)
		all := append(memoryOf(first), memoryOf(second)...)
		for i, a := range all {
			for _, b := range all[i+1:] {
				if share(a, b) {
					t.Fatalf("%s: %v and %v are shared", name, a, b)
				}
			}
		}
		runtime.KeepAlive(first)
		runtime.KeepAlive(second)
	}
}

// spoilAll writes over all lists of an answer, their spare room too.
func spoilAll(a answers) {
	for _, x := range a.state.Sessions[:cap(a.state.Sessions)] {
		clear(x.Links[:cap(x.Links)])
	}
	for _, w := range a.state.Windows[:cap(a.state.Windows)] {
		clear(w.Cells[:cap(w.Cells)])
	}
	for _, f := range a.feeds[:cap(a.feeds)] {
		clear(f.Gaps[:cap(f.Gaps)])
	}
	for _, r := range a.replies[:cap(a.replies)] {
		clear(r.Body[:cap(r.Body)])
	}
	clear(a.state.Sessions[:cap(a.state.Sessions)])
	clear(a.state.Windows[:cap(a.state.Windows)])
	clear(a.feeds[:cap(a.feeds)])
	clear(a.replies[:cap(a.replies)])
	clear(a.messages[:cap(a.messages)])
	clear(a.watched[:cap(a.watched)])
}

// later are pieces that lead on from every condition, or nowhere.
func later() []string {
	return []string{
		"", "age third\n", "%output %1 more\n", "%pause %1 30\n%continue %1 31\n", "%begin 5 3 1\nfour\n", "five\n%end 5 3 1\n", "%window-renamed @1 other\n",
		"%session-renamed $1 play\n%window-link $1 4 @1\n", "%subscription-changed u $1 @1 0 %1 : u\n%message x\n", "%continue %2 9\n%output %2 cd\n", "%exit gone\n",
	}
}

// What is answered may be written over, spare room too: the mirror stays as it was, and goes on as it would.
func TestRule3AnswersAreTheirCallers(t *testing.T) {
	for _, p := range conditions(t) {
		for _, text := range later() {
			for range 2 {
				spoilAll(ask(p.m))
				p.look()
			}
			p.feed(text)
		}
	}
}

// What was answered stays as it was, whatever comes.
func TestRule3AnswersStay(t *testing.T) {
	for name, p := range conditions(t) {
		var kept []answers
		var was []string
		for _, text := range later() {
			a := ask(p.m)
			kept, was = append(kept, a), append(was, fmt.Sprintf("%+v", a))
			p.feed(text)
		}
		for i, a := range kept {
			if now := fmt.Sprintf("%+v", a); now != was[i] {
				t.Errorf("%s: what was answered was\n%s\nand is\n%s", name, was[i], now)
			}
		}
	}
}

// Two that are fed in turns do not know of one another.
func TestRule4TwoInTurns(t *testing.T) {
	for seed := range int64(20) {
		a, b := newWriter(t, 8000+seed), newWriter(t, 8100+seed)
		for range 8 {
			a.write(3)
			b.look()
			b.write(3)
			a.look()
			begun(t).tell("%begin 1 1 1").breaks("%message x")
		}
	}
	a, b := full(t), full(t)
	a.feed("age a\n%output %1 only\n%exit\n")
	b.look().feed("age b\n%continue %2 9\n")
	a.look()
}

// Many at once, from many goroutines, answer what each answers alone.
func TestRule4ManyAtOnce(t *testing.T) {
	texts := append(stories(), full(t).b.all)
	var all sync.WaitGroup
	for worker := range 8 {
		all.Go(func() {
			r := rand.New(rand.NewSource(int64(worker)))
			for range 30 {
				for _, text := range texts {
					if got, want := fedIn(cutUp(r, text)...), (book{text}).read(); !same(got, want) {
						t.Errorf("%s leads to\n%+v\nand not to\n%+v", short(text), got, want)
					}
				}
			}
		})
	}
	all.Wait()
}

// Of panes that were closed, of blocks that were answered and of lines that were taken nothing is kept beside what can be asked for.
func TestNoMoreIsKept(t *testing.T) {
	m := New()
	for pane := 1; pane <= 50; pane++ {
		m.Feed(strings.ReplaceAll("%pane-add %1 0\n%output %1 x\n%pause %1 9\n%pane-close %1\n", "%1", fmt.Sprintf("%%%d", pane)))
		m.Feed("%begin 1 1 1\n" + strings.Repeat("x", 9000) + "\n%end 1 1 1\n")
	}
	if len(m.feeds) != 0 || m.block != nil || cap(m.rest) != 0 || len(m.Replies()) != 50 {
		t.Errorf("%d feeds, %d bytes of a line and the block %v are kept", len(m.feeds), cap(m.rest), m.block)
	}
	m.Feed("%begin 2 2 2\n")
	if _, broken := m.Broken(); !broken {
		t.Fatal("it is not broken")
	}
	m = New()
	m.Feed("%begin 2 2 1\nx\ny\n%exi")
	m.Feed("t\nrest")
	if m.block != nil || cap(m.rest) != 0 || m.Rest() != "" {
		t.Errorf("broken it keeps the block %v, and %d bytes of a line", m.block, cap(m.rest))
	}
	if len(m.Feeds()) != 0 || !same(plainState(m.State()), api.State{}) {
		t.Errorf("it knows %+v", ask(m))
	}
}
