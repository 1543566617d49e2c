package copying

import (
	"strings"
	"testing"

	"mullion/api"
	"mullion/paint"
)

// row is some places as the test itself says them: letters, each of width 1; `<` and the letter behind it are one of width 2; what stands between brackets is selected.
func row(text string) []api.Glyph {
	var places []api.Glyph
	var attr api.Attr
	wide := false
	for _, letter := range text {
		switch letter {
		case '[':
			attr = api.Attr{Marks: 32}
		case ']':
			attr = api.Attr{}
		case '<':
			wide = true
		default:
			g := api.Glyph{Text: string(letter), Width: 1, Attr: attr}
			if wide {
				g.Width = 2
				places = append(places, g)
				g = api.Glyph{Attr: attr}
			}
			places, wide = append(places, g), false
		}
	}
	return places
}

// shows is the picture, as the test itself says it.
func (p *pair) shows(x, y int, rows ...string) *pair {
	p.t.Helper()
	want := api.Picture{W: p.page.w, H: p.page.h, X: x, Y: y}
	for _, r := range rows {
		want.Places = append(want.Places, row(r)...)
	}
	if got := p.mode.Picture(); !samePicture(got, want) {
		p.wrong("Picture is %s\nand not %s", drawn(got), drawn(want))
	}
	return p.lookPicture()
}

// A row is a line of the view, cut at the right, filled up with blanks; a row without a line is blank.
func TestP255Rows(t *testing.T) {
	begun(t, 4, 3).shows(0, 0, "    ", "    ", "    ")
	begun(t, 4, 3, "ab").shows(0, 0, "ab  ", "    ", "    ")
	begun(t, 4, 3, "ab", "", "cdefghij").shows(0, 2, "ab  ", "    ", "cdef")
	begun(t, 4, 2, "ab", "", "cdefghij", "k", "mnop").shows(0, 1, "k   ", "mnop").do("history-top").shows(0, 0, "ab  ", "    ").do("goto-line 2").shows(0, 1, "    ", "cdef")
	begun(t, 1, 1, "abc", "xyz").shows(0, 0, "x").do("cursor-up").shows(0, 0, "a").do("end-of-line").shows(0, 0, "a")
	begun(t, 3, 2, "\x1bx\xffy", " \u0301z ").shows(0, 1, "?x?", " z ")
}

// A letter of width 2 that does not fit at the row's end is not shown, nor is what is behind it.
func TestP255Wide(t *testing.T) {
	begun(t, 4, 3, "\u4e00\u4e01\u4e02", "a\u4e00\u4e01b", "ab\u4e00c").shows(0, 2, "<\u4e00<\u4e01", "a<\u4e00 ", "ab<\u4e00")
	begun(t, 3, 3, "\u4e00\u4e01", "ab\u4e00c", "a\u4e00c").shows(0, 2, "<\u4e00 ", "ab ", "a<\u4e00")
	begun(t, 1, 3, "\u4e00a", "a\u4e00", "b").shows(0, 2, " ", "a", "b")
	begun(t, 2, 2, "a\u4e00bc", "\u4e00bc").shows(0, 1, "a ", "<\u4e00")
}

// The cursor's column are the widths of the letters ahead of it, at most W - 1.
func TestP255Cursor(t *testing.T) {
	p := begun(t, 5, 3, "abc", "\u4e00b\u4e01\u4e02c", "abcdefgh").do("history-top")
	for _, x := range []int{0, 1, 2, 3} {
		p.shows(x, 0, "abc  ", "<\u4e00b<\u4e01", "abcde").do("cursor-right")
	}
	for _, x := range []int{0, 2, 3, 4, 4, 4} {
		p.shows(x, 1, "abc  ", "<\u4e00b<\u4e01", "abcde").do("cursor-right")
	}
	for _, x := range []int{0, 1, 2, 3, 4, 4, 4, 4, 4} {
		p.shows(x, 2, "abc  ", "<\u4e00b<\u4e01", "abcde").do("cursor-right")
	}
	begun(t, 2, 1, "\u4e00\u4e01").do("end-of-line").shows(1, 0, "<\u4e00")
	begun(t, 2, 1, "a\u4e01").do("end-of-line").shows(1, 0, "a ")
	begun(t, 3, 1, "ab", "e\u0301e").do("end-of-line").shows(2, 0, "ee ")
}

// The letters of the selection have MarkReverse, and nothing else has: not the blanks behind a line, nor an empty one.
func TestP255Selection(t *testing.T) {
	p := begun(t, 5, 4, "abc", "", "a\u4e00bcdef", "xy").do("history-top", "cursor-right", "begin-selection")
	p.shows(1, 0, "abc  ", "     ", "a<\u4e00bc", "xy   ").do("cursor-right").shows(2, 0, "a[b]c  ", "     ", "a<\u4e00bc", "xy   ")
	p.do("end-of-line").shows(3, 0, "a[bc]  ", "     ", "a<\u4e00bc", "xy   ").do("cursor-right").shows(0, 1, "a[bc]  ", "     ", "a<\u4e00bc", "xy   ")
	p.do("cursor-right", "cursor-right").shows(1, 2, "a[bc]  ", "     ", "[a]<\u4e00bc", "xy   ").do("cursor-right").shows(3, 2, "a[bc]  ", "     ", "[a<\u4e00]bc", "xy   ")
	p.do("end-of-line").shows(4, 2, "a[bc]  ", "     ", "[a<\u4e00bc]", "xy   ").do("cursor-down", "cursor-left").shows(1, 3, "a[bc]  ", "     ", "[a<\u4e00bc]", "[x]y   ")
	p.do("rectangle-toggle").shows(1, 3, "abc  ", "     ", "a<\u4e00bc", "xy   ").do("cursor-right").shows(2, 3, "a[b]c  ", "     ", "a[<\u4e00]bc", "x[y]   ")
	p.do("cursor-up", "end-of-line").shows(4, 2, "a[bc]  ", "     ", "a[<\u4e00bc]", "xy   ").do("other-end").shows(1, 0, "a[bc]  ", "     ", "a[<\u4e00bc]", "xy   ")
	p.do("clear-selection").shows(1, 0, "abc  ", "     ", "a<\u4e00bc", "xy   ")

	// Where the view shows a part of it alone.
	p = begun(t, 3, 2, "ab", "cd", "ef", "gh").do("goto-line 0", "cursor-right", "begin-selection", "goto-line 3", "cursor-right").shows(1, 1, "[ef] ", "[g]h ")
	p.do("other-end").shows(1, 0, "a[b] ", "[cd] ").do("scroll-down").shows(1, 0, "c[d] ", "[ef] ")
	// Blanks of a line are letters.
	begun(t, 4, 1, " a  ").do("begin-selection", "end-of-line").shows(3, 0, "[ a  ]")
	// A wide letter that is not shown is not marked either.
	begun(t, 3, 1, "ab\u4e00c").do("begin-selection", "end-of-line").shows(2, 0, "[ab] ")
}

// A picture may be painted: it is one that layer 20 takes.
func TestP255MayBe(t *testing.T) {
	for seed := range 200 {
		d := dealt(50000 + seed)
		p := begun(t, 1+d.Intn(9), 1+d.Intn(6), d.lines()...)
		for range 10 {
			p.chance(d, 2).lookPicture()
			if shown := p.mode.Picture(); paint.Check(shown) != api.OK {
				t.Fatalf("no picture: %s", drawn(shown))
			}
		}
	}
}

// The greatest of all: as many rows and columns as there may be, of long lines and wide letters.
func TestP255Greatest(t *testing.T) {
	line := strings.Repeat("\u4e00a", 4000)
	m, _ := New([]string{line, line, line}, api.MaxSide, api.MaxSide)
	m.Do("history-top")
	m.Do("begin-selection")
	m.Do("history-bottom")
	m.Do("end-of-line")
	p := m.Picture()
	if len(p.Places) != api.MaxSide*api.MaxSide || p.X != api.MaxSide-1 || p.Y != 2 {
		t.Fatalf("%d places, the cursor at %d, %d", len(p.Places), p.X, p.Y)
	}
	for i, g := range p.Places {
		x, y := i%api.MaxSide, i/api.MaxSide
		want := []api.Glyph{{Text: "\u4e00", Width: 2}, {}, {Text: "a", Width: 1}}[x%3]
		switch {
		case y > 2 || x == api.MaxSide-1:
			want = api.Glyph{Text: " ", Width: 1}
		default:
			want.Attr.Marks = api.MarkReverse
		}
		if g != want {
			t.Fatalf("at %d, %d is %v, and not %v", x, y, g, want)
		}
	}
}
