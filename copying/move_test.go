package copying

import (
	"fmt"
	"strings"
	"testing"

	"mullion/api"
)

// stair is six lines of unlike numbers of letters; the last one is the longest.
func stair(t testing.TB, h int) *pair {
	return begun(t, 20, h, "ab cd", "", "  x", "a_1-b", "z", "0123456789")
}

// wishing puts the cursor to a place with another column wished for: the last line has it, and the line of the place has fewer letters.
func (p *pair) wishing(line, wished int) *pair {
	p.t.Helper()
	p.goes(p.page.lines()-1, wished)
	for range p.page.lines() - 1 - line {
		p.do("cursor-up")
	}
	return p.wishes(wished)
}

// cursor-left and cursor-right go over line ends; at the text's bounds they do nothing, and set nothing.
func TestP253LeftRight(t *testing.T) {
	p := stair(t, 6).do("history-top")
	var there []string
	for range 40 {
		line, letters := p.mode.Place()
		there = append(there, fmt.Sprint(line, letters))
		p.do("cursor-right")
	}
	want := "[0 0 0 1 0 2 0 3 0 4 0 5 1 0 2 0 2 1 2 2 2 3 3 0 3 1 3 2 3 3 3 4 3 5 4 0 4 1 5 0 5 1 5 2 5 3 5 4 5 5 5 6 5 7 5 8 5 9 5 10" + strings.Repeat(" 5 10", 10) + "]"
	if fmt.Sprint(there) != want {
		t.Errorf("cursor-right goes by %v", there)
	}
	for n := 28; n >= 0; n-- {
		line, letters := p.do("cursor-left").mode.Place()
		if fmt.Sprint(line, letters) != there[n] {
			t.Errorf("cursor-left goes to %d, %d, and not to %s", line, letters, there[n])
		}
	}
	p.at(0, 0, 0).do("cursor-left").at(0, 0, 0)

	p = begun(t, 20, 3, "", "abc", "0123").wishing(0, 3).do("cursor-left").at(0, 0, 0).wishes(3)
	p.do("cursor-right").at(1, 0, 0).wishes(0)
	p = begun(t, 20, 3, "0123", "abc", "")
	p.do("history-top", "end-of-line", "cursor-down").at(1, 3, 0).do("cursor-down").at(2, 0, 0)
	p.do("cursor-right").at(2, 0, 0).do("cursor-up").at(1, 3, 0).do("cursor-up").at(0, 4, 0)
	p.do("cursor-down", "cursor-down", "cursor-left").at(1, 3, 0).do("cursor-up").at(0, 3, 0)
}

// cursor-up and cursor-down keep the column wished for; in the first and the last line they do nothing.
func TestP253UpDown(t *testing.T) {
	p := stair(t, 2).goes(5, 7).at(5, 7, 4)
	p.do("cursor-down").at(5, 7, 4)
	p.do("cursor-up").at(4, 1, 4).do("cursor-up").at(3, 5, 3).do("cursor-up").at(2, 3, 2).do("cursor-up").at(1, 0, 1).do("cursor-up").at(0, 5, 0)
	p.do("cursor-up").at(0, 5, 0).wishes(7)
	p.do("cursor-down").at(1, 0, 0).do("cursor-down").at(2, 3, 1).do("cursor-down").at(3, 5, 2).do("cursor-down").at(4, 1, 3).do("cursor-down").at(5, 7, 4)
	p.goes(0, 5).do("cursor-down", "cursor-down", "cursor-down", "cursor-down", "cursor-down").at(5, 5, 4)
	p.goes(0, 2).do("cursor-down", "cursor-down").at(2, 2, 1)
}

// Each command that moves the cursor sets the column wished for, also where the cursor stands there already.
func TestP253Wished(t *testing.T) {
	for _, c := range []struct {
		commands string
		line     int // where the cursor stands ahead of them, wishing for 8
		want     int // what is wished for behind them
	}{
		{"start-of-line", 4, 0}, {"start-of-line", 1, 0}, {"end-of-line", 4, 1}, {"end-of-line", 1, 0}, {"end-of-line", 3, 5},
		{"back-to-indentation", 1, 0}, {"back-to-indentation", 2, 2}, {"back-to-indentation", 4, 0},
		{"history-top", 1, 0}, {"history-bottom", 1, 0}, {"top-line", 1, 0}, {"middle-line", 1, 0}, {"bottom-line", 1, 0},
		{"next-word", 0, 2}, {"next-word-end", 0, 3}, {"previous-word", 0, 3}, {"next-paragraph", 0, 0}, {"next-paragraph", 1, 10}, {"previous-paragraph", 2, 0}, {"previous-paragraph", 1, 0},
		{"goto-line 1", 1, 0}, {"goto-line 0", 4, 0}, {"search-forward z", 3, 0}, {"search-backward x", 3, 2}, {"search-forward z,search-again", 3, 0},
		{"jump-backward a", 0, 0}, {"jump-backward c,jump-again", 0, -1}, {"jump-backward c", 0, 3},
		{"begin-selection,other-end", 3, 5}, {"begin-selection,other-end,other-end", 4, 1}, {"select-line", 3, 5}, {"select-line", 4, 1}, {"select-line", 1, 0},
		{"cursor-left", 3, 4}, {"cursor-right", 3, 0}, {"cursor-left,cursor-right", 3, 5}, {"cursor-left,select-word", 3, 5},
		{"cursor-up", 3, 8}, {"cursor-down", 3, 8}, {"page-up", 3, 8}, {"page-down", 3, 8}, {"halfpage-up", 3, 8}, {"halfpage-down", 3, 8}, {"scroll-up", 3, 8}, {"scroll-down", 3, 8},
		{"page-up,page-up,page-up,page-up", 1, 8}, {"scroll-down,scroll-down,scroll-down,scroll-down", 1, 8}, {"cursor-up,cursor-up", 1, 8},
		{"begin-selection", 3, 8}, {"begin-selection,clear-selection", 3, 8}, {"rectangle-toggle", 3, 8}, {"clear-selection", 1, 8},
	} {
		for _, h := range []int{2, 3, 6, 9} {
			p := stair(t, h).wishing(c.line, 8)
			want := c.want
			for _, command := range strings.Split(c.commands, ",") {
				if want == -1 && command == "jump-again" {
					p.answers(command, api.ErrTarget)
					want = 3
				} else {
					p.do(command)
				}
			}
			p.wishes(want)
		}
	}
	// What is refused sets nothing.
	for _, c := range []struct {
		command string
		line    int
		want    api.Errno
	}{
		{"search-forward nowhere", 3, 110}, {"jump-forward 1", 3, 110}, {"jump-backward q", 3, 110}, {"select-word", 3, 110}, {"select-word", 1, 110}, {"other-end", 3, 250},
		{"search-again", 3, 250}, {"jump-reverse", 3, 250}, {"goto-line x", 3, 125}, {"goto-line", 3, 123}, {"end-of-line ", 3, 124}, {"End-of-line", 3, 120},
	} {
		stair(t, 2).wishing(c.line, 8).answers(c.command, c.want).wishes(8)
	}
}

func TestP253Line(t *testing.T) {
	p := begun(t, 20, 9, "   ab  cd ", "    ", "", "x", "\u00a0 y", "\t z")
	for _, c := range []struct{ line, back, end int }{{0, 3, 10}, {1, 4, 4}, {2, 0, 0}, {3, 0, 1}, {4, 0, 3}, {5, 0, 3}} {
		for letters := 0; letters <= c.end; letters++ {
			p.goes(c.line, letters).do("back-to-indentation").at(c.line, c.back, 0)
			p.goes(c.line, letters).do("start-of-line").at(c.line, 0, 0)
			p.goes(c.line, letters).do("end-of-line").at(c.line, c.end, 0)
		}
	}
}

func TestP253History(t *testing.T) {
	for _, h := range []int{1, 2, 5, 6, 7} {
		top := max(0, 6-h)
		p := stair(t, h).goes(3, 2).do("history-top").at(0, 0, 0).do("history-top").at(0, 0, 0)
		p.do("history-bottom").at(5, 0, top).do("end-of-line", "history-bottom").at(5, 0, top)
	}
}

// top-line, middle-line and bottom-line are lines of the view: of one line, of some, of more than the text has.
func TestP253ViewLines(t *testing.T) {
	for _, c := range []struct{ h, top, middle, bottom int }{
		{1, 0, 0, 0}, {1, 3, 3, 3}, {1, 5, 5, 5}, {2, 0, 1, 1}, {2, 4, 5, 5}, {3, 0, 1, 2}, {3, 2, 3, 4}, {4, 1, 3, 4}, {4, 2, 4, 5}, {5, 0, 2, 4}, {5, 1, 3, 5}, {6, 0, 3, 5}, {7, 0, 3, 5}, {8, 0, 3, 5}, {1000, 0, 3, 5},
	} {
		p := stair(t, c.h).do("history-top")
		for range c.top {
			p.do("scroll-down")
		}
		p.do("cursor-right")
		for range 2 {
			p.do("bottom-line").at(c.bottom, 0, c.top).do("top-line").at(c.top, 0, c.top).do("middle-line").at(c.middle, 0, c.top)
		}
	}
	begun(t, 3, 5, "a").do("middle-line").at(0, 0, 0).do("bottom-line").at(0, 0, 0)
	begun(t, 3, 5, "a", "b").do("middle-line").at(1, 0, 0).do("top-line").at(0, 0, 0).do("bottom-line").at(1, 0, 0)
	begun(t, 3, 5, "a", "b", "c").do("middle-line").at(1, 0, 0)
}

func tall(t testing.TB, n, h int) *pair {
	return begun(t, 5, h, strings.Split(strings.Repeat("abc\n", n-1)+"abcd", "\n")...)
}

// The page commands move top and the cursor by the same number, each as far as it may.
func TestP253Pages(t *testing.T) {
	p := tall(t, 20, 5).goes(19, 2).at(19, 2, 15)
	p.do("page-up").at(15, 2, 11).do("page-up").at(11, 2, 7).do("page-up").at(7, 2, 3).do("page-up").at(3, 2, 0).do("page-up").at(0, 2, 0).do("page-up").at(0, 2, 0)
	p.do("page-down").at(4, 2, 4).do("page-down").at(8, 2, 8).do("page-down").at(12, 2, 12).do("page-down").at(16, 2, 15).do("page-down").at(19, 2, 15).do("page-down").at(19, 2, 15)
	p.do("halfpage-up").at(17, 2, 13).do("halfpage-up").at(15, 2, 11).do("halfpage-down").at(17, 2, 13).do("halfpage-down").at(19, 2, 15).do("halfpage-down").at(19, 2, 15)
	p.do("history-top", "cursor-down").at(1, 0, 0).do("halfpage-up").at(0, 0, 0)
	p = tall(t, 20, 5).goes(10, 0).at(10, 0, 10).do("cursor-down", "cursor-down", "halfpage-up").at(10, 0, 8).do("page-down").at(14, 0, 12)

	// Views of one line and of two, where h - 1 and half of h are less than 1, or 1.
	p = tall(t, 9, 1).at(8, 0, 8).do("page-up").at(7, 0, 7).do("halfpage-up").at(6, 0, 6).do("page-down").at(7, 0, 7).do("halfpage-down").at(8, 0, 8)
	p.do("history-top", "page-up").at(0, 0, 0).do("halfpage-up").at(0, 0, 0)
	p = tall(t, 9, 2).at(8, 0, 7).do("page-up").at(7, 0, 6).do("halfpage-up").at(6, 0, 5).do("page-down").at(7, 0, 6).do("halfpage-down").at(8, 0, 7)
	p = tall(t, 9, 3).at(8, 0, 6).do("halfpage-up").at(7, 0, 5).do("page-up").at(5, 0, 3)
	p = tall(t, 9, 4).at(8, 0, 5).do("halfpage-up").at(6, 0, 3).do("page-up").at(3, 0, 0).do("page-up").at(0, 0, 0)

	// A view of more lines than the text has.
	p = tall(t, 9, 12).goes(7, 1).do("page-up").at(0, 1, 0).do("halfpage-down").at(6, 1, 0).do("page-down").at(8, 1, 0).do("halfpage-up").at(2, 1, 0)
}

// The letters are those of the column wished for, or the line's end.
func TestP253PagesLetters(t *testing.T) {
	p := stair(t, 3).goes(5, 4).at(5, 4, 3)
	p.do("page-up").at(3, 4, 1).do("halfpage-up").at(2, 3, 0).do("halfpage-up").at(1, 0, 0).do("page-up").at(0, 4, 0).do("page-up").at(0, 4, 0)
	p.do("page-down").at(2, 3, 2).do("page-down").at(4, 1, 3).do("page-down").at(5, 4, 3)
	p.do("scroll-up").at(4, 1, 2).do("scroll-up").at(3, 4, 1).do("scroll-up").at(2, 3, 0).do("scroll-up").at(2, 3, 0)
	p.do("scroll-down").at(2, 3, 1).do("scroll-down").at(2, 3, 2).do("scroll-down").at(3, 4, 3).do("scroll-down").at(3, 4, 3)
}

// scroll-up and scroll-down move the view, and the cursor only where it is out of it.
func TestP253Scroll(t *testing.T) {
	p := tall(t, 8, 3).goes(7, 1).at(7, 1, 5).do("scroll-down").at(7, 1, 5)
	p.do("scroll-up").at(6, 1, 4).do("cursor-up").at(5, 1, 4).do("scroll-up").at(5, 1, 3).do("scroll-up").at(4, 1, 2).do("scroll-up").at(3, 1, 1).do("scroll-up").at(2, 1, 0).do("scroll-up").at(2, 1, 0)
	p.do("scroll-down").at(2, 1, 1).do("scroll-down").at(2, 1, 2).do("scroll-down").at(3, 1, 3).do("scroll-down").at(4, 1, 4).do("scroll-down").at(5, 1, 5).do("scroll-down").at(5, 1, 5)
	p = tall(t, 8, 1).do("scroll-up").at(6, 0, 6).do("scroll-up").at(5, 0, 5).do("scroll-down").at(6, 0, 6)
	p = tall(t, 3, 3).do("scroll-up").at(2, 0, 0).do("scroll-down").at(2, 0, 0)
	tall(t, 3, 9).do("scroll-down").at(2, 0, 0).do("scroll-up").at(2, 0, 0)
}

// The view goes with the cursor no farther than it has to.
func TestP253View(t *testing.T) {
	p := tall(t, 20, 5).at(19, 0, 15).do("goto-line 14").at(14, 0, 14).do("goto-line 16").at(16, 0, 14).do("goto-line 18").at(18, 0, 14).do("goto-line 19").at(19, 0, 15)
	p.do("goto-line 3").at(3, 0, 3).do("goto-line 8").at(8, 0, 4).do("goto-line 4").at(4, 0, 4).do("goto-line 9").at(9, 0, 5).do("goto-line 0").at(0, 0, 0).do("goto-line 5").at(5, 0, 1)
	p.do("cursor-left").at(4, 3, 1).do("top-line", "cursor-left").at(0, 3, 0).do("bottom-line", "end-of-line", "cursor-right").at(5, 0, 1)
}

func TestP253GotoLine(t *testing.T) {
	p := tall(t, 8, 3).goes(4, 2)
	for _, c := range []struct {
		argument string
		line     int
	}{{"0", 0}, {"1", 1}, {"7", 7}, {"8", 7}, {"6", 6}, {"9", 7}, {"3", 3}, {"99", 7}, {"0", 0}, {"4611686018427387904", 7}, {"0", 0}, {"4294967296", 7}, {"2147483648", 7}} {
		p.do("goto-line " + c.argument)
		if line, letters := p.mode.Place(); line != c.line || letters != 0 {
			t.Errorf("goto-line %s goes to %d, %d", c.argument, line, letters)
		}
	}
}
