package split

import (
	"runtime"
	"slices"
	"strings"
	"sync"
	"testing"
	"time"
	"unsafe"

	"mullion/api"
)

func TestP27CloneGoesOnAsTheOneWould(t *testing.T) {
	for _, stream := range streams("a\n", 5) {
		for _, behind := range streams("b\n", 4) {
			s := made(t, 3)
			s.Feed(stream)
			c := s.Clone()
			wantWaiting(t, c, stream, 3)
			before, _ := told(stream, 3)
			want, _ := told(stream+behind, 3)
			wantLines(t, stream+"|"+behind, c.Feed(behind), want[len(before):])
			wantWaiting(t, c, stream+behind, 3)
			wantWaiting(t, s, stream, 3)
			wantLines(t, stream+"|"+behind, s.Feed(behind), want[len(before):])
		}
	}
}

func TestP27NeitherSeesTheOther(t *testing.T) {
	for _, begun := range []string{"", "a", "abcde", "abc\n", "abc\nde", "abcdefghi", "abcdefghi\n", "long enough\nab"} {
		s := made(t, 8)
		s.Feed(begun)
		c := s.Clone()
		mine, its := begun, begun
		for _, chunk := range []string{"1", "23", "4\n5", "", "6789", "\n", "0\n\n", "123456789", "\n1"} {
			s.Feed(chunk)
			mine += chunk
			wantWaiting(t, c, its, 8)
			wantWaiting(t, s, mine, 8)
			c.Feed(chunk + "x")
			its += chunk + "x"
			wantWaiting(t, s, mine, 8)
			wantWaiting(t, c, its, 8)
		}
	}
}

func TestP27CloneOfAClone(t *testing.T) {
	s := made(t, 6)
	s.Feed("k\nab")
	c := s.Clone()
	d := c.Clone()
	wantLines(t, "s", s.Feed("1\n"), []api.Line{{Text: "ab1"}})
	wantLines(t, "c", c.Feed("22\n"), []api.Line{{Text: "ab22"}})
	wantLines(t, "d", d.Feed("33333\n"), []api.Line{{Long: true}})
	for _, one := range []*Splitter{s, c, d} {
		if one.Count() != 2 || one.Limit() != 6 {
			t.Errorf("Count %d, Limit %d", one.Count(), one.Limit())
		}
	}
}

// spoil writes over a list and its spare room.
func spoil(lines []api.Line) {
	for i := range lines[:cap(lines)] {
		lines[:cap(lines)][i] = api.Line{Text: "spoilt", Long: true}
	}
	_ = append(lines, api.Line{Text: "more"})
}

func TestRule3ListsMayBeWrittenOver(t *testing.T) {
	s := made(t, 4)
	first := s.Feed("a\nb\nc\nabcdef\nd")
	kept := slices.Clone(first)
	second := s.Feed("e\nf\n\ng")
	spoil(second)
	wantLines(t, "the first list", first, kept)
	spoil(first)
	wantWaiting(t, s, "a\nb\nc\nabcdef\nde\nf\n\ng", 4)
	wantLines(t, "a later answer", s.Feed("h\ni\n"), []api.Line{{Text: "gh"}, {Text: "i"}})
	c := s.Clone()
	spoil(s.Feed("1\n2\n3"))
	wantLines(t, "its clone", c.Feed("4\n5\n6"), []api.Line{{Text: "4"}, {Text: "5"}})
	one, _, _ := Lines("a\nb\nc\n", 4)
	spoil(one)
	other, _, _ := Lines("a\nb\nc\n", 4)
	wantLines(t, "Lines", other, []api.Line{{Text: "a"}, {Text: "b"}, {Text: "c"}})
}

// within tells whether a text's bytes lie in those of another.
func within(text, whole string) bool {
	if text == "" || whole == "" {
		return false
	}
	at := uintptr(unsafe.Pointer(unsafe.StringData(text)))
	from := uintptr(unsafe.Pointer(unsafe.StringData(whole)))
	return at >= from && at < from+uintptr(len(whole))
}

func TestRule3AnswersAreNewMemory(t *testing.T) {
	s := made(t, 40)
	s.Feed("what was held ")
	chunk := strings.Repeat("some bytes\n", 5) + "and a rest"
	answers := []string{}
	for _, l := range s.Feed(chunk) {
		answers = append(answers, l.Text)
	}
	answers = append(answers, s.Held())
	lines, rest, _ := Lines(chunk, 40)
	for _, l := range lines {
		answers = append(answers, l.Text)
	}
	for _, a := range append(answers, rest) {
		if within(a, chunk) {
			t.Errorf("%q lies in the chunk", a)
		}
	}
}

func TestRule3WhatWasToldStays(t *testing.T) {
	s := made(t, 10)
	s.Feed("first")
	held := s.Held()
	lines := s.Feed("\nsecond\nthird")
	s.Feed("\nxxxxxxxxxx\nyyyyyyyyyyyyyyyy\nzzzzzzzzzz")
	wantLines(t, "told earlier", lines, []api.Line{{Text: "first"}, {Text: "second"}})
	if held != "first" {
		t.Errorf("Held told earlier: %q", held)
	}
}

func TestRule4TwoInTurns(t *testing.T) {
	a, b := made(t, 3), made(t, 5)
	inA, inB := "", ""
	for _, chunk := range []string{"ab", "\nc", "abcd", "\n", "e\nf", "abcdef", "g\n\n"} {
		a.Feed(chunk)
		inA += chunk
		wantWaiting(t, b, inB, 5)
		b.Feed("x" + chunk)
		inB += "x" + chunk
		wantWaiting(t, a, inA, 3)
		wantWaiting(t, b, inB, 5)
		Lines(chunk, 1)
		wantWaiting(t, a, inA, 3)
	}
}

func TestRule4ManyAtOnce(t *testing.T) {
	stream := strings.Repeat("ab\nabcdef\n\nabc\n", 900) + "abcd"
	want, _ := told(stream, 3)
	var all sync.WaitGroup
	for size := range 8 {
		all.Go(func() {
			s, _ := New(3)
			var lines []api.Line
			for chunk := range slices.Chunk([]byte(stream), 700*size+3) {
				lines = append(lines, s.Feed(string(chunk))...)
			}
			if !slices.Equal(lines, want) || !s.Late() {
				t.Errorf("chunks of %d: %d lines; want %d", 700*size+3, len(lines), len(want))
			}
		})
	}
	all.Wait()
}

func TestEveryGoroutineEnds(t *testing.T) {
	before := runtime.NumGoroutine()
	s := made(t, 4)
	for _, stream := range greatStreams() {
		s.Feed(stream)
		s.Feed("")
		Lines(stream, 4)
		Lines(stream, 0)
		Lines("", 4)
	}
	// One that has closed its channel may still need a moment to leave.
	for range 2000 {
		if runtime.NumGoroutine() <= before {
			return
		}
		time.Sleep(time.Millisecond)
	}
	t.Errorf("%d goroutines; %d ahead of the calls", runtime.NumGoroutine(), before)
}

// A line that never ends must not be kept: the splitter holds no more than one line may have.
func TestNothingOfATooLongLineIsKept(t *testing.T) {
	s := made(t, api.MaxLine)
	piece := strings.Repeat("x", 1<<16)
	for range 64 {
		s.Feed(piece)
		if cap(s.held) > 2*api.MaxLine || len(s.held) != 0 {
			t.Fatalf("%d bytes are kept, with room for %d", len(s.held), cap(s.held))
		}
	}
	wantLines(t, "its end", s.Feed("\n"), []api.Line{{Long: true}})
}
