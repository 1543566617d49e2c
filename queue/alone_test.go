package queue

import (
	"math"
	"math/rand"
	"slices"
	"strings"
	"sync"
	"testing"
	"unsafe"

	"mullion/api"
)

func TestRule1EveryCallEnds(t *testing.T) {
	numbers := []int{math.MinInt, math.MinInt + 1, -api.MaxNumber, -1, 0, 1, 2, 10, 65535, api.MaxLimit, api.MaxLimit + 1,
		api.MaxNumber - 1, api.MaxNumber, api.MaxNumber + 1, math.MaxInt - 1, math.MaxInt}
	lists := [][]string{nil, {}, {""}, {"a", "b"}, {"a\n"}, {text(api.MaxLine)}, {text(api.MaxLine + 1)}, make([]string, 200000)}
	for _, limit := range numbers {
		if q, err := New(limit); (q == nil) != (err != api.OK) {
			t.Fatalf("New(%d): error %d, and nil is %v", limit, err, q == nil)
		}
		if limit < 0 || limit > api.MaxLimit {
			continue
		}
		p := paired(t, limit)
		for _, pane := range numbers {
			for _, tick := range numbers {
				p.out(pane, tick, "x")
				p.out(pane, tick)
			}
			for _, lines := range lists {
				p.out(pane, 3, lines...)
				p.putAll(lines...)
				p.put(strings.Join(lines, ""))
			}
			p.drain(pane)
		}
		p.end("bye")
		for _, n := range numbers {
			p.out(n, n, "x")
			p.drain(n)
		}
	}
}

// within tells whether a text's bytes lie in some memory, spare room too.
func within(text string, memory []byte) bool {
	if text == "" || cap(memory) == 0 {
		return false
	}
	at := uintptr(unsafe.Pointer(unsafe.StringData(text)))
	from := uintptr(unsafe.Pointer(unsafe.SliceData(memory)))
	return at >= from && at < from+uintptr(cap(memory))
}

// share tells whether two lists lie in one another's memory, spare room too.
func share(a, b []int) bool {
	if cap(a) == 0 || cap(b) == 0 {
		return false
	}
	fromA, fromB := uintptr(unsafe.Pointer(unsafe.SliceData(a))), uintptr(unsafe.Pointer(unsafe.SliceData(b)))
	return fromA < fromB+8*uintptr(cap(b)) && fromB < fromA+8*uintptr(cap(a))
}

// copied is a text in memory of its own, that can be written over.
func copied(line string) ([]byte, string) {
	memory := append([]byte(line), 0)
	return memory, unsafe.String(&memory[0], len(line))
}

func TestRule3ListsHandedInStay(t *testing.T) {
	lines := []string{"a", "", "bc", text(300), "d"}
	for _, n := range []int{0, 1, 2, 5} {
		p := paired(t, 1000)
		given := slices.Clone(lines)
		calls := []func(l []string) api.Errno{
			func(l []string) api.Errno { return p.q.PutAll(l) },
			func(l []string) api.Errno { return p.q.Out(2, 3, l) },
		}
		for _, call := range calls {
			call(given[:n])
			if !slices.Equal(given, lines) {
				t.Fatalf("%d lines: the list has changed", n)
			}
			call(append(given[:n:n], "x\n"))
			if !slices.Equal(given, lines) {
				t.Fatalf("%d lines: the list has changed by what was refused", n)
			}
		}
	}
}

// The lists and the texts' bytes are written over behind each call: what was kept of them was copied.
func TestRule3NothingHandedInIsKept(t *testing.T) {
	p := paired(t, 5000)
	for i := range 50 {
		var memories [][]byte
		var lines, same []string
		for j := range 3 {
			line := strings.Repeat(string(rune('a'+(i+j)%26)), 1+i%7+j)
			memory, text := copied(line)
			memories, lines, same = append(memories, memory), append(lines, text), append(same, line)
		}
		var got api.Errno
		switch i % 3 {
		case 0:
			got = p.q.PutAll(lines)
			p.m.putAll(same)
		case 1:
			got = p.q.Out(1+i%2, i, lines)
			p.m.out(1+i%2, i, same)
		case 2:
			got = p.q.Put(lines[0])
			p.m.put(same[0])
		}
		p.want(got, api.OK)
		for j, memory := range memories {
			if string(memory[:len(memory)-1]) != same[j] {
				t.Fatalf("a line has changed: %q", memory)
			}
			for k := range memory {
				memory[k] = '\n'
			}
			lines[j] = "other"
		}
		p.drain(i % 11)
	}
	memory, line := copied("the last")
	p.want(p.q.End(line), p.m.end("the last"))
	memory[0] = '\n'
	p.rest()
}

func TestRule3DrainedTextsAreNewMemory(t *testing.T) {
	p := paired(t, 1000)
	var told, same []string
	for i := range 300 {
		line := text(i % 40)
		p.put(line)
		p.out(1, i, line, line)
		held := p.q.bytes
		for _, n := range []int{i % 5, 3, 50} {
			s := p.drain(n)
			if within(s, held) || within(s, p.q.bytes) {
				t.Fatalf("Drain(%d) hands out what is kept", n)
			}
			told, same = append(told, s), append(same, strings.Clone(s))
		}
	}
	if !slices.Equal(told, same) {
		t.Error("what was told has changed")
	}
}

func TestRule3PanesAreTheirCallers(t *testing.T) {
	p := paired(t, 1000)
	for i, pane := range []int{4, 1, 4, 3, 1, 2, 9, 4} {
		p.want(p.out(pane, i, "x", "y"), api.OK)
	}
	want := []int{1, 2, 3, 4, 9}
	for range 3 {
		a, b := p.q.Panes(), p.q.Panes()
		if !slices.Equal(a, want) || !slices.Equal(b, want) || share(a, b) {
			t.Fatalf("Panes() = %v and %v; one lies in the other: %v", a, b, share(a, b))
		}
		a = a[:cap(a)]
		for i := range a {
			a[i] = -7
		}
		_ = append(b, 100, 101, 102)
		slices.Reverse(b)
		p.look()
	}
	kept := p.q.Panes()
	p.out(50, 1, "z")
	p.drain(9)
	p.look()
	if !slices.Equal(kept, want) {
		t.Errorf("a list that was told has changed: %v", kept)
	}
	p.rest()
}

func TestRule4TwoInTurns(t *testing.T) {
	for _, limits := range [][2]int{{5, 5}, {0, 100}, {30, 7}} {
		a := goes(t, limits[0], 41, map[string]int{})
		b := goes(t, limits[1], 42, map[string]int{})
		for i := range 800 {
			a.step(i > 700)
			b.look()
			b.step(i > 600)
			a.look()
			made(t, 3).Out(1, 1, []string{"x"})
		}
		a.wantAll()
		b.wantAll()
		a.rest()
		b.rest()
	}
}

func TestRule4OneIsClosed(t *testing.T) {
	a, b := paired(t, 10), paired(t, 10)
	a.out(1, 2, "abc")
	b.out(1, 3, "xyz")
	a.end("bye")
	a.look()
	b.look()
	b.want(b.put("more"), api.OK)
	a.want(a.put("more"), api.ErrClosed)
	a.rest()
	b.rest()
}

// What is asked changes no answer, however often and in between.
func TestRule4LookingChangesNothing(t *testing.T) {
	calls := func(looks int) string {
		q := made(t, 40)
		r := rand.New(rand.NewSource(9))
		var told strings.Builder
		for range 500 {
			for range looks {
				q.Size()
				q.Limit()
				q.Closed()
				q.Oldest(1)
				q.Panes()
			}
			q.Out(1+r.Intn(3), r.Intn(9), []string{text(r.Intn(9))})
			q.Put(text(r.Intn(5)))
			told.WriteString(q.Drain(r.Intn(14)))
		}
		return told.String()
	}
	if calls(0) != calls(3) {
		t.Error("a queue that is asked answers otherwise")
	}
}

func TestRule4ManyAtOnce(t *testing.T) {
	var all sync.WaitGroup
	for worker := range 8 {
		all.Go(func() {
			q, _ := New(100 * worker)
			var laid, told strings.Builder
			for i := range 3000 {
				line := strings.Repeat(string(rune('a'+worker)), i%50)
				if q.Out(1+i%5, i, []string{line}) == api.OK {
					laid.WriteString(line + "\n")
				}
				if q.Put(line) == api.OK {
					laid.WriteString(line + "\n")
				}
				told.WriteString(q.Drain(i % 70))
			}
			told.WriteString(q.Drain(math.MaxInt))
			if laid.String() != told.String() {
				t.Errorf("worker %d: what came out is not what was laid in", worker)
			}
		})
	}
	all.Wait()
}

// Neighbours of one owner are one piece; no piece is empty; the sizes are together what waits.
func TestPiecesAreTurnsOfOwners(t *testing.T) {
	for seed := range 200 {
		r := goes(t, 30, int64(seed), map[string]int{})
		for range 60 {
			r.step(false)
			size := 0
			for i, p := range r.q.pieces {
				size += p.size
				if p.size < 1 || i > 0 && p.owner == r.q.pieces[i-1].owner {
					t.Fatalf("the pieces %v: the %d. is empty, or of its neighbour's owner", r.q.pieces, i)
				}
			}
			if size != r.q.Size() {
				t.Fatalf("the pieces %v are together %d; %d wait", r.q.pieces, size, r.q.Size())
			}
		}
	}
}

// What is kept is little more than what may wait, however much has come and gone.
func TestLittleMoreThanTheBoundIsKept(t *testing.T) {
	for _, limit := range []int{0, 1000, api.MaxLimit} {
		q := made(t, limit)
		line := text(100)
		for i := range 30000 {
			q.Out(1+i%2, i, []string{""})
			q.Put(line)
			q.Drain(100 + i%5)
			if most := 2 * (limit + api.Spare); cap(q.bytes) > most || cap(q.pieces) > most {
				t.Fatalf("limit %d: room for %d bytes and %d pieces", limit, cap(q.bytes), cap(q.pieces))
			}
		}
	}
}

// A byte costs the same, however many wait: most of them find room.
func TestSingleBytesFindRoom(t *testing.T) {
	p := filled(t, api.MaxLimit, api.MaxLimit+api.Spare-10)
	q := p.q
	q.Put("")
	if times := testing.AllocsPerRun(20000, func() { q.Put(""); q.Drain(1) }); times != 0 {
		t.Errorf("a single byte makes new memory %v times", times)
	}
}
