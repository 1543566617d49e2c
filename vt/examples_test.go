package vt

import (
	"testing"

	"mullion/api"
)

// seen is what a screen shows behind some bytes: its rows with / between (blanks
// at the end of all may be left out), and its cursor.
type seen struct {
	data, rows string
	x, y       int
}

// wantSeen feeds each to a new screen.
func wantSeen(t *testing.T, w, h, history int, list ...seen) {
	t.Helper()
	for _, want := range list {
		s := made(t, w, h, history)
		s.Feed(want.data)
		wantNow(t, s, want)
	}
}

func wantNow(t *testing.T, s *Screen, want seen) {
	t.Helper()
	p := s.Picture()
	if got := rowsOf(p); len(got) < len(want.rows) || got[:len(want.rows)] != want.rows || !onlyBlanks(got[len(want.rows):]) || p.X != want.x || p.Y != want.y {
		t.Errorf("%q shows %q, cursor (%d, %d), and not %q, (%d, %d)", want.data, got, p.X, p.Y, want.rows, want.x, want.y)
	}
}

func onlyBlanks(text string) bool {
	for _, b := range []byte(text) {
		if b != ' ' && b != '/' {
			return false
		}
	}
	return true
}

func TestExample1(t *testing.T) {
	wantSeen(t, 5, 3, 0,
		seen{"ab", "ab   /     /     ", 2, 0}, seen{"abcde", "abcde/     /     ", 4, 0}, seen{"abcdef", "abcde/f    /     ", 1, 1}, seen{"abcde\r\nf", "abcde/f    /     ", 1, 1})
}

func TestExample2(t *testing.T) {
	wantSeen(t, 5, 3, 0, seen{"a\nb\nc\nd", " b   /  c  /   d ", 4, 2})
}

func TestExample3(t *testing.T) {
	wantSeen(t, 5, 3, 0, seen{"abcde\x1b[3DX", "aXcde/     /     ", 2, 0})
}

func TestExample4(t *testing.T) {
	s := made(t, 5, 3, 0)
	s.Feed("\xe4\xb8\x80")
	wantNow(t, s, seen{"one letter", "\u4e00   /     /     ", 2, 0})
	if l := s.Picture().Places; l[0] != (api.Glyph{Text: "\xe4\xb8\x80", Width: 2}) || l[1] != (api.Glyph{}) {
		t.Errorf("the letter stands on %v and %v", l[0], l[1])
	}
	s.Feed("\x1b[2GX")
	wantNow(t, s, seen{"X over its right half", " X   /     /     ", 2, 0})
	if g := s.Picture().Places[0]; g != (api.Glyph{Text: " ", Width: 1}) {
		t.Errorf("the left half is %v", g)
	}
}

func TestExample5(t *testing.T) {
	wantSeen(t, 5, 3, 0, seen{"\xffa", "\ufffda   ", 2, 0}, seen{"\xe4\xb8a", "\ufffda   ", 2, 0})
}

func TestExample6(t *testing.T) {
	for data, want := range map[string][]api.Attr{
		"\x1b[31;1mR\x1b[0mN":    {{Fore: 2, Marks: api.MarkBold}, {}},
		"\x1b[38;5;196mX":        {{Fore: 197}, {}},
		"\x1b[48;2;1;2;3mX":      {{Back: 66308}, {}},
		"\x1b[48;2;1;2;3mX\x1bc": {{}, {}},
	} {
		s := made(t, 5, 3, 0)
		s.Feed(data)
		for i, attr := range want {
			if g := s.Picture().Places[i]; g.Attr != attr {
				t.Errorf("%q: the place %d has %v, not %v", data, i, g.Attr, attr)
			}
		}
	}
}

func TestExample7(t *testing.T) {
	wantSeen(t, 5, 3, 0, seen{"abc\x1b[1;2H\x1b[K", "a    /     /     ", 1, 0}, seen{"abc\x1b[2G\x1b[@X", "aXbc /     /     ", 2, 0})
}

func TestExample8(t *testing.T) {
	wantSeen(t, 5, 3, 0, seen{"1\r\n2\r\n3\x1b[2;3r\x1b[3;1H\n4", "1    /3    /4    ", 1, 2})
}

func TestExample9(t *testing.T) {
	s := made(t, 5, 3, 0)
	s.Feed("\x1b[6n\x1b]2;hi\a")
	if answer, title := s.Answer(), s.Picture().Title; answer != "\x1b[1;1R" || title != "hi" {
		t.Errorf("Answer is %q, the title %q", answer, title)
	}
}

func TestExample10(t *testing.T) {
	s := made(t, 5, 3, 0)
	s.Feed("x\x1b[?1049hy\x1b[?1049l")
	wantNow(t, s, seen{"back from the other screen", "x    /     /     ", 1, 0})
	if s.Alternate() {
		t.Error("the other screen is shown")
	}
}
