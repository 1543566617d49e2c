package vt

import (
	"math/rand"
	"slices"
	"strings"
	"testing"
)

// Lines: the history, the screen, and the blanks at the end of each.
func TestV4Lines(t *testing.T) {
	for _, c := range []struct {
		data  string
		lines []string
	}{
		{"", []string{"", "", ""}}, {"a", []string{"a", "", ""}}, {" a ", []string{" a", "", ""}}, {"a b  ", []string{"a b", "", ""}}, {"     ", []string{"", "", ""}}, {"\x1b[41;7m  \x1b[Ka", []string{"  a", "", ""}}, {"a\x1b[41m\x1b[K", []string{"a", "", ""}}, {"\u4e00 \u4e01", []string{"\u4e00 \u4e01", "", ""}}, {"\u4e00", []string{"\u4e00", "", ""}}, {"a\u3000", []string{"a\u3000", "", ""}}, {"a\u00a0", []string{"a\u00a0", "", ""}},
		{"1 \r\n 2\r\n3\r\n4", []string{"1", " 2", "3", "4"}}, {"\r\n\r\n\r\n\r\n\r\nx", []string{"", "", "", "", "", "x"}}, {"1\r\n2\r\n3\r\n4\r\n5\r\n6\r\n7\r\n8", []string{"3", "4", "5", "6", "7", "8"}}, {"1\r\n2\r\n3\r\n4\x1b[?47h", []string{"", "", ""}}, {"1\r\n2\r\n3\r\n4\x1b[?47h\r5", []string{"", "", "5"}}, {"1\r\n2\r\n3\r\n4\x1b[?47h5\x1b[?47l", []string{"1", "2", "3", "4"}}, {"abcdef", []string{"abcde", "f", ""}},
	} {
		s := made(t, 5, 3, 3)
		s.Feed(c.data)
		if got := s.Lines(); !slices.Equal(got, c.lines) {
			t.Errorf("%q: Lines are %q, not %q", c.data, got, c.lines)
		}
	}
	s := made(t, 3, 1, 9) // rows of the history are as wide as the screen was then
	s.Feed("abc\r\nde")
	s.Resize(6, 1)
	s.Feed("fghi\r\n\u4e00\u4e01\u4e02\r\nz")
	s.Resize(2, 1)
	if got := s.Lines(); !slices.Equal(got, []string{"abc", "defghi", "\u4e00\u4e01\u4e02", "z"}) {
		t.Errorf("Lines are %q", got)
	}
}

// Printable text on new screens of many widths: row by row.
func TestV7Text(t *testing.T) {
	r := rand.New(rand.NewSource(7))
	for w := 1; w <= 90; w++ {
		for _, h := range []int{1, 2, 3, 10} {
			n := r.Intn(w*h + 1)
			text := make([]byte, n)
			for i := range text {
				text[i] = byte(0x20 + r.Intn(0x5f))
			}
			s := made(t, w, h, 0)
			s.Feed(string(text))
			p := s.Picture()
			for i, g := range p.Places {
				want := " "
				if i < n {
					want = string(text[i : i+1])
				}
				if g.Text != want || g.Width != 1 {
					t.Fatalf("%dx%d, %q: the place %d holds %v", w, h, text, i, g)
				}
			}
			if at := p.Y*w + p.X; at != n && !(at == n-1 && p.X == w-1) {
				t.Fatalf("%dx%d: behind %d letters the cursor is at (%d, %d)", w, h, n, p.X, p.Y)
			}
		}
	}
	for _, w := range []int{1, 7, 1000} {
		all := made(t, w, 3, 2000)
		text := strings.Repeat("0123456789abcdefghijklmnopqrstuvwxyz", 200)
		all.Feed(text)
		if got := strings.Join(all.Lines(), ""); w > 1 && got != text || w == 1 && got != text[len(text)-2003:] {
			t.Errorf("%d columns: the lines are not the text", w)
		}
	}
}

// Lines with 0D 0A behind each: a line a row.
func TestV7Lines(t *testing.T) {
	r := rand.New(rand.NewSource(8))
	for w := 1; w <= 60; w++ {
		var lines []string
		for range 1 + r.Intn(30) {
			line := make([]byte, r.Intn(w+1))
			for i := range line {
				line[i] = byte(0x21 + r.Intn(0x5e))
			}
			lines = append(lines, string(line))
		}
		s := made(t, w, len(lines), 0)
		s.Feed(strings.Join(lines, "\r\n"))
		if got := s.Lines(); !slices.Equal(got, lines) {
			t.Fatalf("%d columns: %q, not %q", w, got, lines)
		}
		s = made(t, w, 2, 50)
		for _, line := range lines {
			s.Feed(line + "\r\n")
		}
		if got := s.Lines(); !slices.Equal(got[:len(lines)], lines) || len(got) != max(2, len(lines)+1) {
			t.Fatalf("%d columns: %q, not %q", w, got, lines)
		}
	}
}
