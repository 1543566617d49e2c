package vt

import (
	"math"
	"strings"
	"testing"

	"mullion/api"
)

// Each refusal, behind which nothing has changed.
func TestV5Refused(t *testing.T) {
	for _, w := range sides {
		for _, h := range sides {
			if sideMayBe(w) && sideMayBe(h) {
				continue
			}
			a := begun(t, 5, 3, 4).feed("1\r\n2\r\n3\r\n4\x1b[2;3r\x1b[3g\x1b[2;5Hx\x1b7")
			if err := a.s.Resize(w, h); err != api.ErrSide {
				t.Errorf("Resize(%d, %d) answers error %d", w, h, err)
			}
			a.look().probed()
		}
	}
	for _, size := range [][2]int{{1, 1}, {1000, 1}, {1, 1000}, {1000, 1000}, {1, 1}, {math.MaxUint8, 3}} {
		s := made(t, 5, 3, 4)
		if err := s.Resize(size[0], size[1]); err != api.OK || s.Picture().W != size[0] || s.Picture().H != size[1] {
			t.Errorf("Resize(%d, %d) answers error %d", size[0], size[1], err)
		}
	}
}

// resized is what a screen of 5x4 with a history of 3 shows behind some bytes and a Resize.
type resized struct {
	data  string
	w, h  int
	rows  string
	x, y  int
	lines string
}

func wantResized(t *testing.T, list ...resized) {
	t.Helper()
	for _, c := range list {
		s := made(t, 5, 4, 3)
		s.Feed(c.data)
		if err := s.Resize(c.w, c.h); err != api.OK {
			t.Errorf("%q, Resize(%d, %d): error %d", c.data, c.w, c.h, err)
		}
		p := s.Picture()
		if rowsOf(p) != c.rows || p.X != c.x || p.Y != c.y || strings.Join(s.Lines(), "/") != c.lines {
			t.Errorf("%q, Resize(%d, %d): %s, lines %q, and not %q, (%d, %d), lines %q", c.data, c.w, c.h, drawn(p), s.Lines(), c.rows, c.x, c.y, c.lines)
		}
	}
}

// Lower: blank rows below the cursor go first, then rows at the top.
func TestV5Lower(t *testing.T) {
	wantResized(t,
		resized{"1\r\n2", 5, 2, "1    /2    ", 1, 1, "1/2"}, resized{"1\r\n2", 5, 1, "2    ", 1, 0, "1/2"}, resized{"1\r\n2\r\n3\r\n4", 5, 3, "2    /3    /4    ", 1, 2, "1/2/3/4"}, resized{"1\r\n2\r\n3\r\n4", 5, 1, "4    ", 1, 0, "1/2/3/4"},
		resized{"1\r\n2\r\n3\r\n4\x1b[H", 5, 3, "2    /3    /4    ", 0, 0, "1/2/3/4"}, resized{"1\r\n2\r\n3\r\n4\x1b[2H", 5, 1, "4    ", 0, 0, "1/2/3/4"}, resized{"1\r\n2\r\n3\x1b[H", 5, 2, "2    /3    ", 0, 0, "1/2/3"}, resized{"1\x1b[H", 5, 1, "1    ", 0, 0, "1"}, resized{"\x1b[4;1H", 5, 2, "     /     ", 0, 1, "///"}, resized{"1\x1b[3;1H", 5, 2, "     /     ", 0, 1, "1//"},
		resized{"1\r\n2\x1b[41m\x1b[3;1H   \x1b[K\x1b[4;1H\x1b[2K\x1b[1;2H", 5, 2, "1    /2    ", 1, 0, "1/2"}, resized{"1\x1b[3;5H\u00a0\x1b[H", 5, 2, "     /    \u00a0", 0, 0, "1//    \u00a0"}, resized{"1\r\n2\r\n3\r\n4\r\n5\r\n6\r\n7\r\n8", 5, 1, "8    ", 1, 0, "5/6/7/8"}, resized{"1\r\n2\r\n3\r\n4", 2, 2, "3 /4 ", 1, 1, "1/2/3/4"},
	)
}

// Higher: rows come back from the history, then blank ones join at the bottom.
func TestV5Higher(t *testing.T) {
	wantResized(t,
		resized{"1\r\n2", 5, 6, "1    /2    /     /     /     /     ", 1, 1, "1/2////"}, resized{"1\r\n2\r\n3\r\n4\r\n5\r\n6", 5, 5, "2    /3    /4    /5    /6    ", 1, 4, "1/2/3/4/5/6"}, resized{"1\r\n2\r\n3\r\n4\r\n5\r\n6", 5, 6, "1    /2    /3    /4    /5    /6    ", 1, 5, "1/2/3/4/5/6"}, resized{"1\r\n2\r\n3\r\n4\r\n5\r\n6", 5, 8, "1    /2    /3    /4    /5    /6    /     /     ", 1, 5, "1/2/3/4/5/6//"},
		resized{"1\r\n2\r\n3\r\n4\r\n5\x1b[H", 5, 5, "1    /2    /3    /4    /5    ", 0, 1, "1/2/3/4/5"}, resized{"1\r\n2\r\n3\r\n4\r\n5\x1b[3J", 5, 5, "2    /3    /4    /5    /     ", 1, 3, "2/3/4/5/"}, resized{"1\r\n2\r\n3\r\n4\r\n5", 5, 4, "2    /3    /4    /5    ", 1, 3, "1/2/3/4/5"},
	)
}

// Narrower and wider: rows are cut at the right, or blanks join; letters of width 2 are cut.
func TestV5Sides(t *testing.T) {
	wantResized(t,
		resized{"abcde\r\nfghij", 3, 4, "abc/fgh/   /   ", 2, 1, "abc/fgh//"}, resized{"abcde\r\nfghij", 7, 4, "abcde  /fghij  /       /       ", 4, 1, "abcde/fghij//"}, resized{"\u4e00\u4e01", 3, 4, "\u4e00 /   /   /   ", 2, 0, "\u4e00///"}, resized{"\u4e00\u4e01", 2, 4, "\u4e00/  /  /  ", 1, 0, "\u4e00///"}, resized{"\u4e00\u4e01", 1, 4, " / / / ", 0, 0, "///"}, resized{"a\u4e00\u4e01", 4, 4, "a\u4e00 /    /    /    ", 3, 0, "a\u4e00///"},
		resized{"12345\r\n2\r\n3\r\n4\r\n5", 3, 5, "123/2  /3  /4  /5  ", 1, 4, "123/2/3/4/5"}, resized{"12345\r\n2\r\n3\r\n4\r\n5", 3, 4, "2  /3  /4  /5  ", 1, 3, "12345/2/3/4/5"}, resized{"1\r\n2\r\n3\r\n4\r\n5", 7, 5, "1      /2      /3      /4      /5      ", 1, 4, "1/2/3/4/5"}, resized{"a\u4e00\u4e01\r\n2\r\n3\r\n4\r\n5", 4, 5, "a\u4e00 /2   /3   /4   /5   ", 1, 4, "a\u4e00/2/3/4/5"}, resized{"abcde\r\nx\r\ny\r\nz", 2, 3, "x /y /z ", 1, 2, "abcde/x/y/z"},
	)
	s := made(t, 3, 2, 9)
	s.Feed("\x1b[31;42;1m\u4e00\u4e01\x1b[0;44m")
	s.Resize(5, 3)
	s.Resize(1, 3)
	s.Resize(2, 4)
	if l := s.Picture().Places; l[0] != (api.Glyph{Text: " ", Width: 1, Attr: api.Attr{Fore: 2, Back: 3, Marks: 1}}) || l[1] != (api.Glyph{Text: " ", Width: 1}) || l[7] != (api.Glyph{Text: " ", Width: 1}) {
		t.Errorf("a letter that was cut, and what joins: %v", l)
	}
}

// While the other screen is shown: it changes at the bottom alone; the main
// screen's cursor counts as standing in its last row.
func TestV5OtherScreen(t *testing.T) {
	wantResized(t,
		resized{"\x1b[?47ha\r\nb\r\nc\r\nd", 5, 2, "a    /b    ", 1, 1, "a/b"}, resized{"\x1b[?47ha\r\nb\r\nc\r\nd\x1b[2;2H", 5, 5, "a    /b    /c    /d    /     ", 1, 1, "a/b/c/d/"}, resized{"\x1b[?47h\u4e00\u4e01\r\nb\x1b[3;5H", 3, 3, "\u4e00 /b  /   ", 2, 2, "\u4e00/b/"},
		resized{"1\r\n2\r\n3\r\n4\r\n5\x1b[?47h\x1b[Hx", 5, 5, "x    /     /     /     /     ", 1, 0, "x////"},
	)
	for _, c := range []struct {
		data    string
		w, h    int
		lines   string
		history int
	}{
		{"1\x1b[?47hx", 5, 2, "1///", 2}, {"1\r\n2\r\n3\r\n4\x1b[?47hx", 5, 2, "1/2/3/4", 2}, {"1\r\n2\r\n3\r\n4\r\n5\x1b[?47hx", 5, 6, "1/2/3/4/5/", 0}, {"1\r\n2\r\n3\r\n4\r\n5\x1b[?47hx\x1b[H", 5, 5, "1/2/3/4/5", 0}, {"12345\r\n2\x1b[?1049hx\x1b[4;5H", 3, 4, "123/2//", 0}, {"1\r\n2\x1b[?47h", 5, 3, "1/2//", 1}, {"1\r\n2\x1b[?47h\x1b[H", 5, 3, "1/2//", 1},
	} {
		s := made(t, 5, 4, 3)
		s.Feed(c.data)
		s.Resize(c.w, c.h)
		s.Feed("\x1b[?47l")
		if got := strings.Join(s.Lines(), "/"); got != c.lines || s.History() != c.history {
			t.Errorf("%q, Resize(%d, %d): the main screen's lines are %q, History %d, not %q", c.data, c.w, c.h, got, s.History(), c.lines)
		}
	}
}

// The cursor and the kept ones beyond the edge, the region, the waiting and the tab stops behind a Resize.
func TestV5WhatElse(t *testing.T) {
	for _, c := range []struct {
		data string
		w, h int
		more string
		want seen
	}{
		{"\x1b[4;5H", 3, 4, "", seen{rows: "", x: 2, y: 3}}, {"\x1b[4;5H\x1b7\x1b[H", 3, 2, "\x1b8X", seen{rows: "   /  X", x: 2, y: 1}}, {"\x1b[2;2H\x1b7\x1b[H", 3, 2, "\x1b8X", seen{rows: "   / X", x: 2, y: 1}}, {"\x1b[4;5H\x1b7\x1b[?47h\x1b[3;4H\x1b7", 2, 2, "\x1b8X\x1b[?47l\x1b8Y", seen{rows: "  / Y", x: 1, y: 1}}, {"\x1b[?47h\x1b[3;4H\x1b7\x1b[H", 2, 2, "\x1b8X", seen{rows: "  / X", x: 1, y: 1}},
		{"1\r\n2\r\n3\r\n4\x1b[1;2r\x1b[2;1H", 5, 4, "\nX", seen{rows: "1    /2    /X    /4", x: 1, y: 2}}, {"\x1b[2;3r\x1b[?6h", 5, 4, "\x1b[HX", seen{rows: "X", x: 1, y: 0}}, {"\x1b[2;3r", 5, 6, "\x1b[9BX", seen{rows: "     /     /     /     /     /X", x: 1, y: 5}},
		{"abcde", 5, 4, "X", seen{rows: "abcdX", x: 4, y: 0}}, {"abcde", 6, 4, "X", seen{rows: "abcdX ", x: 5, y: 0}}, {"abcde", 4, 4, "X", seen{rows: "abcX", x: 3, y: 0}}, {"abcde\x1b7", 5, 4, "\x1b8X", seen{rows: "abcde/X", x: 1, y: 1}}, {"abcde\x1b7", 3, 4, "\x1b8X", seen{rows: "abc/X", x: 1, y: 1}}, {"abcde\x1b7", 7, 4, "\x1b8X", seen{rows: "abcde  /X", x: 1, y: 1}},
		{"", 20, 1, "\tX\tY\tZ", seen{rows: "        X       Y  Z", x: 19, y: 0}}, {"\x1b[3g\x1b[1;3H\x1bH\r", 20, 1, "\tX\tY", seen{rows: "        X       Y   ", x: 17, y: 0}}, {"\x1b[4h\x1b[?7l\x1b(0\x1b[?25l", 3, 1, "qa\rq", seen{rows: "\u2500\u2500\u2592", x: 1, y: 0}}, {"a\xe4", 9, 4, "\xb8\x80", seen{rows: "a\u4e00", x: 3, y: 0}}, {"a\x1b[2", 9, 4, "CX", seen{rows: "a  X     ", x: 4, y: 0}}, {"a\x1b]2;t", 9, 4, "itle\aX", seen{rows: "aX", x: 2, y: 0}},
	} {
		a := begun(t, 5, 4, 0).feed(c.data).resize(c.w, c.h).feed(c.more)
		c.want.data = c.data + " .. " + c.more
		wantNow(t, a.s, c.want)
		a.probed()
	}
}

// From each size to each other one, and back, with rows above, below and in between.
func TestV5ThereAndBack(t *testing.T) {
	texts := []string{letters, wideOdd, "1\r\n2\r\n3\r\n4\r\n5\r\n6\r\n7\x1b[2;2H", "1\r\n\x1b[41m\x1b[2K2\r\n3\x1b[H", "1\r\n2\r\n3\r\n4\r\n5\x1b[?1049hx\r\ny", "\x1b[9;9H\x1b7\x1b[?47h\x1b[9;9Hx\x1b7"}
	list := sized()
	spread(len(list)*len(list), func(i int) {
		for _, text := range texts {
			for _, history := range []int{0, 2, 50} {
				if t.Failed() {
					return
				}
				begun(t, 5, 4, history).step(text).step(list[i/len(list)]).step("z\n").step(list[i%len(list)]).probed()
			}
		}
	})
}
