package tail

import (
	"math"
	"math/rand"
	"slices"
	"strings"
	"sync"
	"testing"
	"unsafe"

	"mullion/api"
)

func TestRule1EveryCallEnds(t *testing.T) {
	numbers := []int{math.MinInt, math.MinInt + 1, -api.MaxNumber, -1, 0, 1, 2, 3, 7, 100, 65535, api.MaxTail, api.MaxTail + 1,
		api.MaxNumber - 7, api.MaxNumber - 1, api.MaxNumber, api.MaxNumber + 1, math.MaxInt - 1, math.MaxInt}
	datas := append(texts("a\n", 3), strings.Repeat("\n", 101), strings.Repeat("x", api.MaxTail), strings.Repeat("x\n", api.MaxTail))
	for _, limit := range numbers {
		if l, err := New(limit); (l == nil) != (err != api.OK) {
			t.Fatalf("New(%d): error %d, and nil is %v", limit, err, l == nil)
		}
		for _, start := range numbers {
			for _, data := range datas {
				l, err := Load(limit, start, data)
				if (l == nil) != (err != api.OK) {
					t.Fatalf("Load(%d, %d, %.20q): error %d, and nil is %v", limit, start, data, err, l == nil)
				}
				if l == nil {
					continue
				}
				m := &model{limit: limit, born: start, all: data}
				if l.Append("b\n") == api.OK {
					m.all += "b\n"
				}
				for _, n := range numbers {
					wantLines(t, l, m, n)
					if len(data) > 200 {
						continue
					}
					for _, most := range numbers {
						wantRead(t, l, m, n, most)
					}
				}
				wantKept(t, l, m)
			}
		}
	}
}

// within tells whether a text's bytes lie in some memory, spare room too.
func within(text string, memory []byte) bool {
	if text == "" || cap(memory) == 0 {
		return false
	}
	at := uintptr(unsafe.Pointer(unsafe.StringData(text)))
	from := uintptr(unsafe.Pointer(unsafe.SliceData(memory)))
	return at >= from && at < from+uintptr(cap(memory))
}

func bytesOf(text string) []byte { return unsafe.Slice(unsafe.StringData(text), len(text)) }

// The text's bytes are written over behind the call: what was kept of it was copied.
func TestRule3NothingHandedInIsKept(t *testing.T) {
	for _, limit := range []int{3, 8, 20, 1000} {
		l, m := made(t, limit), &model{limit: limit}
		for range 6 {
			for _, data := range []string{"ab", "c\nd", "0123456789", strings.Repeat("long ", 50)} {
				memory := []byte(data)
				if err := l.Append(unsafe.String(&memory[0], len(memory))); err != api.OK {
					t.Fatal(err)
				}
				m.all += data
				if string(memory) != data {
					t.Fatalf("Append has changed %q", data)
				}
				for i := range memory {
					memory[i] = '!'
				}
				wantAnswers(t, l, m)
			}
		}
		memory := []byte("xyz")
		l = loaded(t, limit, 5, unsafe.String(&memory[0], len(memory)))
		memory[1] = '!'
		wantAnswers(t, l, &model{limit: limit, born: 5, all: "xyz"})
	}
}

func TestRule3AnswersAreNewMemory(t *testing.T) {
	data := strings.Repeat("some bytes\n", 9) + "and a rest"
	for _, limit := range []int{20, 60, len(data), 5000} {
		l := made(t, limit)
		for range 3 {
			if err := l.Append(data); err != api.OK {
				t.Fatal(err)
			}
			var answers []string
			for range 2 {
				piece, _, _ := l.Read(l.Start()+3, 7)
				whole, _, _ := l.Read(l.Start(), math.MaxInt)
				answers = append(answers, piece, whole, l.All(), l.Lines(1), l.Lines(2), l.Lines(math.MaxInt))
			}
			for i, a := range answers {
				if within(a, l.kept) || within(a, bytesOf(data)) {
					t.Fatalf("limit %d: answer %d, %.20q, lies in what is kept or in what was handed in", limit, i, a)
				}
				for j, b := range answers {
					if i != j && within(a, bytesOf(b)) {
						t.Fatalf("limit %d: answer %d lies in answer %d", limit, i, j)
					}
				}
			}
		}
	}
}

// Pieces that are handed on have no spare room: to grow one does not write into what is kept behind it.
func TestRule3PiecesHaveNoSpareRoom(t *testing.T) {
	l := made(t, 10)
	for range 9 {
		l.Append("a\nbc")
		for from := l.Start(); from <= l.End(); from++ {
			for behind := from; behind <= l.End(); behind++ {
				if p := l.piece(from, behind); cap(p) != len(p) || len(p) != behind-from {
					t.Fatalf("the piece %d..%d has %d bytes, with room for %d", from, behind, len(p), cap(p))
				}
			}
		}
		for n := range 5 {
			if p := lastLines(l.whole(), n); cap(p) != len(p) {
				t.Fatalf("the last %d lines have %d bytes, with room for %d", n, len(p), cap(p))
			}
		}
	}
}

func TestRule3WhatWasToldStays(t *testing.T) {
	for _, limit := range []int{5, 64, 3000} {
		l := made(t, limit)
		var told, copies []string
		for range 300 {
			l.Append(numbered(l.End(), 13))
			piece, _, _ := l.Read(l.Start()+1, 3)
			for _, s := range []string{l.All(), l.Lines(1), l.Lines(3), piece} {
				told, copies = append(told, s), append(copies, string(slices.Clone(bytesOf(s))))
			}
		}
		if !slices.Equal(told, copies) {
			t.Errorf("limit %d: what was told has changed", limit)
		}
	}
}

func TestRule4TwoInTurns(t *testing.T) {
	r := rand.New(rand.NewSource(4))
	a, inA := made(t, 5), &model{limit: 5}
	b, inB := made(t, 8), &model{limit: 8}
	for range 300 {
		lay(t, a, inA, numbered(r.Intn(1000), r.Intn(12)))
		wantAnswers(t, b, inB)
		lay(t, b, inB, numbered(r.Intn(1000), r.Intn(12)))
		wantAnswers(t, a, inA)
		// One that is loaded with what another tells is no part of it.
		c := loaded(t, a.Limit(), a.Start(), a.All())
		c.Append("other bytes")
		New(3)
		Load(8, b.Start(), "more")
		wantAnswers(t, a, inA)
		wantAnswers(t, b, inB)
	}
}

func TestRule4ALoadedOneAndItsModelPart(t *testing.T) {
	for kept := range 9 {
		data := "a\nbcd\ne\n"[:kept]
		l, inL := loaded(t, 8, 3, data), &model{limit: 8, born: 3, all: data}
		c, inC := loaded(t, l.Limit(), l.Start(), l.All()), &model{limit: 8, born: 3, all: data}
		for range 5 {
			lay(t, l, inL, "12\n")
			wantAnswers(t, c, inC)
			lay(t, c, inC, "wxyz")
			wantAnswers(t, l, inL)
			wantAnswers(t, c, inC)
		}
	}
}

func TestRule4ManyAtOnce(t *testing.T) {
	stream := numbered(0, 40000)
	var all sync.WaitGroup
	for worker := range 8 {
		all.Go(func() {
			limit := 500*worker + 1
			l, _ := New(limit)
			for piece := range slices.Chunk([]byte(stream), 100*worker+7) {
				l.Append(string(piece))
				if s, _, err := l.Read(l.Start(), limit); err != api.OK || s != stream[l.Start():l.End()] {
					t.Errorf("limit %d, %d..%d: what is read is not what was laid in", limit, l.Start(), l.End())
				}
			}
			if l.All() != stream[len(stream)-limit:] {
				t.Errorf("limit %d: All is not the last bytes", limit)
			}
		})
	}
	all.Wait()
}

// What is kept is no more than the limit, with some room to grow, however much was laid in at once or in all.
func TestLittleMoreThanTheLimitIsKept(t *testing.T) {
	for _, limit := range []int{1, 100, 4096, api.MaxTail} {
		for _, size := range []int{1, 3, limit, limit + 1, 40 * limit} {
			l := made(t, limit)
			data := strings.Repeat("x", size)
			for range 2000 * limit / max(size, limit) {
				l.Append(data)
				if len(l.kept) > limit || cap(l.kept) > 2*limit+64 {
					t.Fatalf("limit %d, %d at a time: %d bytes are kept, with room for %d", limit, size, len(l.kept), cap(l.kept))
				}
			}
		}
	}
}

// A byte costs the same, however many are kept: most of them find room.
func TestSingleBytesFindRoom(t *testing.T) {
	l := loaded(t, api.MaxTail, 0, strings.Repeat("x", api.MaxTail))
	l.Append("y")
	if times := testing.AllocsPerRun(10000, func() { l.Append("y") }); times != 0 {
		t.Errorf("a single byte makes new memory %v times", times)
	}
}
