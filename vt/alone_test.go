package vt

import (
	"math/rand"
	"runtime"
	"strings"
	"sync"
	"testing"
	"unsafe"

	"mullion/api"
)

// full is a screen that has something of everything.
func full(t *testing.T) *pair {
	t.Helper()
	return begun(t, 6, 3, 5).feed("\x1b]2;a title\a\x1b[31;44m1\r\n2\r\n3\r\n\u4e00\u4e01\u00e9\r\n5\x1b7\x1b[6n\a", "\x1b[?1h\x1b[2;3r\x1b[2;6Hx")
}

// What is answered may be written over, spare room too: the screen stays as it was.
func TestRule3AnswersAreTheirCallers(t *testing.T) {
	for _, more := range []string{"", "x", "\x1b[?47h", "\x1b[?1049hab\r\ncd", "\x1bc", "\r\n\n\n\n", "=4x2", "=9x9"} {
		a := full(t).step(more)
		for range 2 {
			p, l := a.s.Picture(), a.s.Lines()
			clear(p.Places[:cap(p.Places)])
			clear(l[:cap(l)])
			a.look()
		}
		a.probed()
	}
	p, _ := Blank(3, 2)
	clear(p.Places[:cap(p.Places)])
	p, _ = Blank(3, 2)
	wantBlank(t, p, 3, 2)
}

// What was answered stays as it was, whatever comes.
func TestRule3AnswersStay(t *testing.T) {
	a := full(t)
	var kept []func() bool
	for _, step := range []string{"", "yz", "\x1b[2J", "\x1b#8", "=4x2", "\r\n\r\n\r\n", "\x1b[?47hq", "=8x5", "\x1b[?47l", "\x1b]2;other\a", "\x1bc", "end"} {
		a.step(step)
		picture, lines, told, texts := a.s.Picture(), a.s.Lines(), drawn(a.s.Picture()), strings.Join(a.s.Lines(), "/")
		kept = append(kept, func() bool { return drawn(picture) == told && strings.Join(lines, "/") == texts })
	}
	for i, same := range kept {
		if !same() {
			t.Errorf("what was answered behind step %d has changed", i)
		}
	}
}

// stretch is some memory.
type stretch struct{ from, behind uintptr }

func stretchOf[T any](l []T) stretch {
	var one T
	from := uintptr(unsafe.Pointer(unsafe.SliceData(l)))
	return stretch{from, from + uintptr(cap(l))*unsafe.Sizeof(one)}
}

// No two lists that are answered share memory.
func TestRule3AnswersAreNewMemory(t *testing.T) {
	s := full(t).s
	p, q, l, m := s.Picture(), s.Picture(), s.Lines(), s.Lines()
	all := []stretch{stretchOf(p.Places), stretchOf(q.Places), stretchOf(l), stretchOf(m)}
	for i, a := range all {
		for _, b := range all[i+1:] {
			if a.from < b.behind && b.from < a.behind {
				t.Errorf("%v and %v are shared", a, b)
			}
		}
	}
	runtime.KeepAlive([]any{p, q, l, m})
}

// The bytes of what is fed are written over behind each Feed: what was kept of them was copied.
func TestRule3NothingHandedInIsKept(t *testing.T) {
	d := dealer{rand.New(rand.NewSource(3))}
	for range 300 {
		a := begun(t, 7, 3, 4)
		for range 12 {
			text := d.text()
			if d.Intn(3) == 0 {
				text = text[:d.Intn(len(text)+1)]
			}
			memory := append(make([]byte, 0, len(text)+1), text...)
			a.s.Feed(unsafe.String(unsafe.SliceData(memory), len(memory)))
			for i := range memory {
				memory[i] = '!'
			}
			a.p.feed(text)
			a.told = append(a.told, text)
			a.look()
		}
		a.probed()
	}
}

// Two that are fed in turns do not know of one another.
func TestRule4TwoInTurns(t *testing.T) {
	for seed := range int64(40) {
		d := dealer{rand.New(rand.NewSource(400 + seed))}
		a, b := begun(t, 8, 4, 3), begun(t, 5, 3, 0)
		for range 60 {
			a.feed(d.text())
			b.look().feed(d.text())
			a.look()
		}
		a.probed()
		b.probed()
	}
}

// Many at once, from many goroutines, show what each shows alone.
func TestRule4ManyAtOnce(t *testing.T) {
	var all sync.WaitGroup
	for worker := range 8 {
		all.Go(func() {
			d := dealer{rand.New(rand.NewSource(int64(500 + worker%2)))}
			a := begun(t, 8, 4, 3)
			for range 200 {
				a.feed(d.text())
			}
			a.probed()
		})
	}
	all.Wait()
}

// Every call ends on every screen, with nothing fed and with all bytes fed.
func TestRule1Calls(t *testing.T) {
	var bytes strings.Builder
	for i := range 256 {
		bytes.WriteByte(byte(i))
	}
	for _, size := range [][3]int{{1, 1, 0}, {1, 1, 2000}, {1, 1000, 1}, {1000, 1, 0}, {3, 3, 3}} {
		s := made(t, size[0], size[1], size[2])
		for _, text := range []string{"", bytes.String(), bytes.String() + bytes.String(), "\x1b[" + bytes.String(), "\x1b]2;" + bytes.String()} {
			s.Feed(text)
			wantWhole(t, s, size[0], size[1], size[2])
			s.Answer()
			s.Resize(0, 0)
		}
	}
}

// Of what has begun no more is kept than can matter.
func TestV6NeverGrows(t *testing.T) {
	long := strings.Repeat("0", 1<<20)
	for _, text := range []string{"\x1b[" + long, "\x1b]2;" + long, "\x1b]" + long, "\x1bP" + long, "\x1b" + strings.Repeat("(", 1<<20), strings.Repeat("\x1b[c", 1<<18), strings.Repeat("x\n", 1<<18), strings.Repeat("\x1b7\x1b[?1049h", 1<<16)} {
		s := made(t, 5, 3, 2)
		s.Feed(text)
		if kept := cap(s.held) + cap(s.answer) + len(s.title) + cap(s.past.rows); kept > 3*4096 {
			t.Errorf("behind %.9q.. %d bytes and rows are kept", text, kept)
		}
	}
	s := made(t, 1, 1, api.MaxHistory)
	s.Feed(strings.Repeat("x\n", 1<<16))
	if s.History() != api.MaxHistory || cap(s.past.rows) > 2*api.MaxHistory {
		t.Errorf("%d rows are kept, with room for %d", s.History(), cap(s.past.rows))
	}
}
