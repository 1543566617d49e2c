package copying

import (
	"fmt"
	"math"
	"strings"
	"testing"

	"mullion/api"
)

// The sizes that may be are those from 1 to MaxSide, each by itself.
func TestP251Sizes(t *testing.T) {
	good := []int{1, 2, 80, 999, api.MaxSide}
	bad := []int{0, -1, api.MaxSide + 1, math.MinInt, math.MaxInt, 1 << 32, 1<<32 + 1, -1 << 32}
	for _, w := range append(good, bad...) {
		for _, h := range append(good, bad...) {
			m, err := New([]string{"a"}, w, h)
			may := 1 <= w && w <= 1000 && 1 <= h && h <= 1000
			if may != (m != nil) || may != (err == api.OK) || !may && err != 41 {
				t.Errorf("New(%d, %d) answers %v, %d", w, h, m != nil, err)
			}
			if may && w*h < 100000 {
				begun(t, w, h, "a", "", "bc").lookPicture()
			}
		}
	}
}

// No lines at all are one empty line.
func TestP251NoLines(t *testing.T) {
	for _, lines := range [][]string{nil, {}, {""}, {"\u0301"}} {
		p := begun(t, 3, 2, lines...).at(0, 0, 0).lookPicture()
		for _, order := range strings.Fields(orders) {
			name, _, _ := strings.Cut(order, "=")
			if _, takes := asks(name); !takes {
				p.made(name)
				p.at(0, 0, 0)
			}
		}
		p.do("begin-selection").selects("").do("goto-line 5").at(0, 0, 0).answers("search-forward a", api.ErrTarget).answers("jump-forward a", api.ErrTarget).probe()
	}
}

// At first the cursor stands at the beginning of the last line, and the view shows as many lines as it may.
func TestP251AtFirst(t *testing.T) {
	for n := 1; n < 8; n++ {
		for _, h := range []int{1, 2, 3, 4, 5, 6, 7, 8, 9, 1000} {
			lines := strings.Split(strings.Repeat("abc\n", n-1)+"abc", "\n")
			p := begun(t, 5, h, lines...).at(n-1, 0, max(0, n-h)).marks().selectsNothing().wishes(0)
			if p.mode.Rectangle() {
				t.Error("a rectangle is on")
			}
			p.answers("search-again", api.ErrMode).answers("search-reverse", api.ErrMode)
			p.answers("jump-again", api.ErrMode).answers("jump-reverse", api.ErrMode).answers("other-end", api.ErrMode)
			p.at(n-1, 0, max(0, n-h))
		}
	}
	p := begun(t, 5, 24, strings.Split(strings.Repeat("x\n", 3000)+"y", "\n")...).at(3000, 0, 2977)
	p.do("history-top").at(0, 0, 0)
}

// linesOf is what a line is as letters: what is selected from its beginning to its end.
func linesOf(t *testing.T, lines ...string) string {
	t.Helper()
	return taken(begun(t, 80, 24, lines...).do("history-top", "begin-selection", fmt.Sprintf("goto-line %d", len(lines)), "end-of-line"))
}

func taken(p *pair) string {
	text, _ := p.mode.Selection()
	return text
}

// Each byte that is part of no code point, and each code point that is no letter, counts as a question mark; letters of width 0 are let go.
func TestP251Letters(t *testing.T) {
	for _, c := range []struct{ line, want string }{
		{"abc ~!", "abc ~!"}, {"", ""}, {"?", "?"},
		{"\xff", "?"}, {"\x80\x81", "??"}, {"a\xffb", "a?b"}, {"\xfe\xff", "??"},
		{"\xe4\xb8\x80", "\u4e00"}, {"\xe4\xb8", "??"}, {"\xe4\xb8a", "??a"}, {"\xe4", "?"}, {"\xe4\xe4\xb8\x80", "?\u4e00"},
		{"\xc0\x80", "??"}, {"\xc1\xbf", "??"}, {"\xe0\x80\x80", "???"}, {"\xed\xa0\x80", "???"}, {"\xed\xbf\xbf", "???"}, {"\xf4\x90\x80\x80", "????"},
		{"\xf0\x80\x80\x80", "????"}, {"\xf0\x9f\x98", "???"}, {"\xf5\x80\x80\x80", "????"}, {"\xf0\x9f\x98\x80", "\U0001f600"},
		{"\xed\x9f\xbf", "\ud7ff"}, {"\xee\x80\x80", "\ue000"}, {"\xf4\x8f\xbf\xbf", "\U0010ffff"}, {"\xc2\xa0", "\u00a0"},
		{"\ufffd", "\ufffd"}, {"\ufffd\xff", "\ufffd?"}, {"\xef\xbf", "??"},
		{"\x00\x01\x1f", "???"}, {"\x7f", "?"}, {"\u0080\u009f", "??"}, {"\t", "?"}, {"\n", "?"}, {"a\nb\r\x1b", "a?b??"}, {"\u00a0 ", "\u00a0 "},
		{"e\u0301", "e"}, {"\u0300\u036f", ""}, {"\u02ff\u0300\u036f\u0370", "\u02ff\u0370"}, {"a\u200bb\u200fc", "abc"}, {"\u2010\u200a", "\u2010\u200a"},
		{"\u2028\u202e\ufeff\u20d0\ufe00\ufe0f", ""}, {"\u2027\u202f\ufefe", "\u2027\u202f\ufefe"}, {"\u4e00\u0301\uff01", "\u4e00\uff01"},
	} {
		if got := linesOf(t, c.line); got != c.want {
			t.Errorf("%q is %q, and not %q", c.line, got, c.want)
		}
		if got := linesOf(t, "x", c.line, c.line, ""); got != "x\n"+c.want+"\n"+c.want+"\n" {
			t.Errorf("%q twice is %q", c.line, got)
		}
	}
}

// Each code point by itself is a letter of the width that the layer 19 tells; a place lies ahead of each.
func TestP251CodePoints(t *testing.T) {
	var line strings.Builder
	for letter := rune(0); letter <= 0x10ffff; letter += 1 + letter/2000 {
		line.WriteRune(letter)
	}
	want := strings.Join(lettersIn(line.String()), "")
	m, _ := New([]string{"", line.String()}, 80, 24)
	m.Do("begin-selection")
	m.Do("end-of-line")
	if got, _ := m.Selection(); got != want || len(want) < 10000 {
		t.Errorf("of the code points %d bytes are letters, and not %d", len(got), len(want))
	}
	if _, letters := m.Place(); letters != len([]rune(want)) {
		t.Errorf("the line has %d letters, and not %d", letters, len([]rune(want)))
	}
}

// Every pair of bytes, and every third one behind some pairs.
func TestP251Bytes(t *testing.T) {
	var lines []string
	for i := range 256 {
		for j := range 256 {
			lines = append(lines, string([]byte{byte(i), byte(j)}))
		}
		for _, ahead := range []string{"\xe0\xa0", "\xe4\xb8", "\xed\x9f", "\xed\xa0", "\xf0\x90\x80", "\xf4\x8f\xbf", "\xf4\x90\x80", "\xe0\x9f", "\xf0\x8f\xbf", "\xc2", "\xdf"} {
			lines = append(lines, ahead+string([]byte{byte(i)}), ahead+string([]byte{byte(i), 'a'}))
		}
	}
	m, _ := New(lines, 80, 24)
	m.Do("history-top")
	m.Do("begin-selection")
	m.Do("history-bottom")
	m.Do("end-of-line")
	text, _ := m.Selection()
	got := strings.Split(text, "\n")
	for i, line := range lines {
		if want := strings.Join(lettersIn(line), ""); i >= len(got) || got[i] != want {
			t.Fatalf("%q is %q, and not %q", line, got[min(i, len(got)-1)], want)
		}
	}
}
