package server

import (
	"fmt"
	"math"
	"runtime"
	"strings"
	"sync"
	"testing"
	"unsafe"

	"mullion/api"
)

// Every call ends, at all arguments.
func TestRule1EveryCallEnds(t *testing.T) {
	numbers := []int{math.MinInt, math.MinInt + 1, -api.MaxNumber, -1, 0, 1, 2, 3, 4, 5, 7, 8, 100, api.MaxLimit, api.MaxLimit + 1, api.MaxNumber, math.MaxInt}
	texts := []string{"", "\n", "a", "new\n", "splitw\nlsp\n", "\x00\xff", strings.Repeat("\n", 200), strings.Repeat("x", 9000) + "\n", strings.Repeat("x", api.MaxChunk+1)}
	for _, p := range []*pair{begun(t), working(t).attach(2, 0), working(t).input(1, "kill-server")} {
		for _, kind := range numbers {
			for _, n := range numbers {
				for i, m := range numbers {
					p.play(api.Entry{Kind: kind, Client: n, Pane: m, N: m, Text: texts[i%len(texts)]})
				}
			}
		}
		for _, here := range numbers {
			for _, text := range texts {
				p.run(here, api.Line{Text: text})
				p.run(here, api.Line{Text: text, Long: true})
			}
			p.run(here, api.Line{Text: "kill-session ; new ; kill-server"})
		}
		for _, pane := range numbers {
			for _, text := range texts {
				p.s.Send(pane, text)
				p.m.st.Type(pane, text)
			}
			for _, n := range numbers {
				p.s.Vars(api.Place{Session: pane, Index: n, Window: n, Pane: pane})
				p.s.Vars(api.Place{Session: n, Index: pane, Window: pane, Pane: n})
			}
		}
		p.look("everything")
	}
}

// Where two errors apply, the first one is the answer, and nothing has changed (pair looks).
func TestRule2TheFirstError(t *testing.T) {
	long := strings.Repeat("x", api.MaxChunk+1)
	p := working(t)
	for _, c := range []struct {
		e    api.Entry
		want api.Errno
	}{
		{attaching(0, -1), api.ErrClient}, {attaching(1, -1), api.ErrClient}, {attaching(2, -1), api.ErrArg}, {sending(2, long), api.ErrClient}, {sending(1, long), api.ErrLong},
		{writing(9, long), api.ErrLong}, {writing(9, "x"), api.ErrNoPane}, {draining(2, -1), api.ErrClient}, {draining(1, -1), api.ErrArg},
	} {
		p.step(c.e, c.want)
	}
}

// written is a text in memory of its own, that can be written over.
type written struct{ memory []byte }

func (w *written) text(s string) string {
	from := len(w.memory)
	w.memory = append(w.memory, s...)
	return unsafe.String(unsafe.SliceData(w.memory[from:]), len(s))
}

// spoil writes over the bytes of all texts.
func (w *written) spoil() {
	for i := range w.memory {
		w.memory[i] = '\n'
	}
}

// The bytes of all texts are written over behind each call: what was kept of them was copied.
func TestRule3NothingHandedInIsKept(t *testing.T) {
	for seed := range int64(6) {
		r := newRun(t, 18000+seed)
		for i := range 250 {
			e := r.d.entry()
			want, wantErr := r.m.step(e)
			w := &written{memory: make([]byte, 0, 1<<16)}
			spoilt := e
			spoilt.Text = w.text(e.Text)
			got, err := r.s.Step(spoilt)
			w.spoil()
			if got != want || err != wantErr {
				t.Fatalf("%.200s answers %q, %d, and not %q, %d", telling(e), got, err, want, wantErr)
			}
			r.look(telling(e))
			if i%5 > 0 {
				continue
			}
			line, here, pane := r.d.line(), r.d.session(), r.d.pane()
			answer := r.s.Run(here, api.Line{Text: w.text(line)})
			r.s.Send(pane, w.text("typed"))
			w.spoil()
			if want := r.m.run(here, api.Line{Text: line}); telling(answer) != telling(want) {
				t.Fatalf("%s answers %+v, and not %+v", line, answer, want)
			}
			r.m.st.Type(pane, "typed")
			r.look(line)
		}
	}
}

// stretch is some memory.
type stretch struct{ from, behind uintptr }

func stretchOf[T any](l []T) stretch {
	var one T
	from := uintptr(unsafe.Pointer(unsafe.SliceData(l)))
	return stretch{from, from + uintptr(cap(l))*unsafe.Sizeof(one)}
}

func stretchOfText(s string) stretch {
	from := uintptr(unsafe.Pointer(unsafe.StringData(s)))
	return stretch{from, from + uintptr(len(s))}
}

func share(a, b stretch) bool { return a.from < b.behind && b.from < a.behind }

// memoryOf is the memory of all lists of what a server tells of itself, and of its texts; and these answers, to be kept alive.
func memoryOf(s *Server) ([]stretch, []any) {
	now, peers, vars := s.State(), s.Peers(), s.Vars(api.Place{Session: 1, Index: 0, Window: 1, Pane: 1})
	l, kept := []stretch{stretchOf(now.Sessions), stretchOf(now.Windows), stretchOf(peers), stretchOf(vars)}, []any{now, peers, vars}
	for _, x := range now.Sessions {
		l = append(l, stretchOf(x.Links), stretchOfText(x.Name))
	}
	for _, w := range now.Windows {
		l = append(l, stretchOf(w.Cells), stretchOfText(w.Name))
	}
	for _, p := range peers {
		l = append(l, stretchOf(p.Paused), stretchOf(p.Watches))
		for _, w := range p.Watches {
			l = append(l, stretchOfText(w.Name), stretchOfText(w.What), stretchOfText(w.Format))
		}
	}
	for _, pane := range panesOf(now) {
		typed := s.Typed(pane)
		l, kept = append(l, stretchOfText(typed)), append(kept, typed)
	}
	return l, kept
}

// crowded is a server that has something of everything.
func crowded(t *testing.T) *pair {
	t.Helper()
	p := working(t).input(1, "renamew edit", "splitw", "splitw -h", "neww -n other", "new -d -s second", "refresh -A %1:pause", "refresh -A %3:pause", "refresh -B aa:%*:'#{pane_bytes}'", "refresh -B bb:@*:bbbb",
		"send -t %1 -l typed", "send -t %2 -l more")
	return p.attach(2, 50).input(2, "refresh -A %2:pause", "refresh -B cc::cccc").output(1, "bytes").attach(3, 10)
}

// No two lists of what is answered share memory, nor any two answers.
func TestRule3AnswersAreNewMemory(t *testing.T) {
	p := crowded(t)
	first, some := memoryOf(p.s)
	second, others := memoryOf(p.s)
	all := append(first, second...)
	for i, a := range all {
		for _, b := range all[i+1:] {
			if share(a, b) {
				t.Fatalf("%v and %v are shared", a, b)
			}
		}
	}
	runtime.KeepAlive(some)
	runtime.KeepAlive(others)
}

// What is answered may be written over, spare room too: the server stays as it was.
func TestRule3AnswersAreTheirCallers(t *testing.T) {
	p := crowded(t)
	for range 3 {
		now, peers := p.s.State(), p.s.Peers()
		for _, x := range now.Sessions[:cap(now.Sessions)] {
			clear(x.Links[:cap(x.Links)])
		}
		for _, w := range now.Windows[:cap(now.Windows)] {
			clear(w.Cells[:cap(w.Cells)])
		}
		clear(now.Sessions[:cap(now.Sessions)])
		clear(now.Windows[:cap(now.Windows)])
		for _, peer := range peers[:cap(peers)] {
			clear(peer.Paused[:cap(peer.Paused)])
			clear(peer.Watches[:cap(peer.Watches)])
		}
		clear(peers[:cap(peers)])
		vars := p.s.Vars(api.Place{Session: 1, Index: 0, Window: 1, Pane: 1})
		clear(vars[:cap(vars)])
		a := p.run(1, api.Line{Text: "lsp ; display hello ; refresh -B dd::dddd ; lsw"})
		clear(a.Body[:cap(a.Body)])
		clear(a.Acts[:cap(a.Acts)])
		p.look("answers that are written over").tick(1)
	}
	p.drainAll().input(1, "lsp", "splitw")
}

// What was answered stays as it was, whatever comes.
func TestRule3AnswersStay(t *testing.T) {
	p := crowded(t)
	now, peers, answer := p.s.State(), p.s.Peers(), p.s.Run(1, api.Line{Text: "lsp ; display hello"})
	drained := p.drain(1, 50)
	was := telling(now) + telling(peers) + telling(answer) + drained
	p.input(1, "killp -t %1", "rename other", "renamew third", "swapp -s %2 -t %3", "movew -t 7", "refresh -A %2:continue", "refresh -B aa", "kill-session -t second").tick(2)
	p.output(2, strings.Repeat("z", 300)).drainAll()
	if now := telling(now) + telling(peers) + telling(answer) + drained; now != was {
		t.Errorf("what was answered was\n%s\nand is\n%s", was, now)
	}
}

// Two that are played in turns do not know of one another.
func TestRule4TwoInTurns(t *testing.T) {
	for seed := range int64(5) {
		a, b := newRun(t, 21000+seed), newRun(t, 21100+seed)
		for range 200 {
			a.step()
			b.look("the other one's entry")
			b.step()
			a.look("the other one's entry")
			made(t, plain()).Run(0, api.Line{Text: "new"})
		}
	}
}

func TestRule4ManyAtOnce(t *testing.T) {
	c, entries := script(t, 24000, 300)
	want := played(t, c, entries)
	var all sync.WaitGroup
	for worker := range 8 {
		all.Go(func() {
			if played(t, c, entries) != want {
				t.Errorf("worker %d: the same entries lead to something else", worker)
			}
		})
	}
	all.Wait()
}

// Of clients that have gone nothing is kept, and of lines that were answered neither.
func TestNoMoreIsKept(t *testing.T) {
	p := begun(t)
	for i := range 60 {
		number := 1 + i%4
		p.attach(number, 1000).input(number, fmt.Sprintf("new -s s%d", i), "refresh -B w::x", "refresh -A %"+fmt.Sprint(i+1)+":pause", "kill-session")
		p.drain(number, math.MaxInt)
	}
	for _, c := range p.s.clients {
		if c != nil {
			t.Errorf("a client is kept: %+v", c.Peer(1))
		}
	}
}
