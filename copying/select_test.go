package copying

import (
	"fmt"
	"strings"
	"testing"

	"mullion/api"
)

func TestP253Marks(t *testing.T) {
	p := stair(t, 2).goes(3, 2).do("begin-selection").marks(3, 2).do("history-top").marks(3, 2)
	p.do("begin-selection").marks(0, 0).do("end-of-line").do("clear-selection").marks().at(0, 5, 0).do("clear-selection").marks()
	p.answers("other-end", api.ErrMode).at(0, 5, 0)
	p.do("begin-selection", "goto-line 5").at(5, 0, 4).do("other-end").at(0, 5, 0).marks(5, 0).do("other-end").at(5, 0, 4).marks(0, 5)
	p.do("rectangle-toggle", "other-end", "begin-selection", "cursor-down")
	if !p.mode.Rectangle() {
		t.Error("the rectangle is off")
	}
	p.do("clear-selection").marks()
	if p.mode.Rectangle() {
		t.Error("the rectangle is on behind clear-selection")
	}
	p.do("rectangle-toggle").marks().do("begin-selection")
	if !p.mode.Rectangle() {
		t.Error("the rectangle is off, though nothing was marked")
	}
}

func TestP253SelectLine(t *testing.T) {
	p := stair(t, 2)
	for line, want := range []string{"ab cd", "", "  x", "a_1-b", "z", "0123456789"} {
		for letters := range len(want) + 1 {
			p.goes(line, letters).do("clear-selection", "rectangle-toggle", "select-line").marks(line, 0).stands(line, len(want)).selects(want)
			if p.mode.Rectangle() {
				t.Error("the rectangle is on behind select-line")
			}
			p.do("select-line").marks(line, 0).stands(line, len(want)).selects(want)
		}
	}
}

// select-word selects the word of the letter that the cursor lies ahead of, and no other.
func TestP253SelectWord(t *testing.T) {
	p := begun(t, 20, 2, "ab c_1-\u00e9\u4e00x", "", "zz", " ")
	for _, c := range []struct {
		line, letters, from, to int
		want                    string
	}{
		{0, 0, 0, 2, "ab"}, {0, 1, 0, 2, "ab"}, {0, 3, 3, 6, "c_1"}, {0, 4, 3, 6, "c_1"}, {0, 5, 3, 6, "c_1"},
		{0, 7, 7, 10, "\u00e9\u4e00x"}, {0, 8, 7, 10, "\u00e9\u4e00x"}, {0, 9, 7, 10, "\u00e9\u4e00x"}, {2, 0, 0, 2, "zz"}, {2, 1, 0, 2, "zz"},
	} {
		p.do("clear-selection").goes(c.line, c.letters).do("rectangle-toggle", "select-word").marks(c.line, c.from).stands(c.line, c.to).selects(c.want)
		if p.mode.Rectangle() {
			t.Error("the rectangle is on behind select-word")
		}
	}
	for _, c := range [][2]int{{0, 2}, {0, 6}, {0, 10}, {1, 0}, {2, 2}, {3, 0}, {3, 1}} {
		p.do("clear-selection").goes(c[0], c[1]).answers("select-word", api.ErrTarget).stands(c[0], c[1]).marks()
		p.do("rectangle-toggle", "begin-selection").answers("select-word", api.ErrTarget).marks(c[0], c[1])
		if !p.mode.Rectangle() {
			t.Error("the rectangle is off behind a select-word that was refused")
		}
	}
}

// Without a mark nothing is selected, with the rectangle on too.
func TestP254Nothing(t *testing.T) {
	p := stair(t, 3).selectsNothing().do("rectangle-toggle").selectsNothing().goes(3, 3).selectsNothing()
	p.do("begin-selection").selects("").do("clear-selection").selectsNothing().do("cursor-left").selectsNothing().lookPicture()
}

func TestP254Selection(t *testing.T) {
	type span struct{ fromLine, fromLetters, toLine, toLetters int }
	for _, c := range []struct {
		span
		plain, rectangle string
	}{
		{span{0, 0, 0, 0}, "", ""}, {span{3, 2, 3, 2}, "", ""}, {span{1, 0, 1, 0}, "", ""},
		{span{0, 1, 0, 4}, "b c", "b c"}, {span{0, 0, 0, 5}, "ab cd", "ab cd"},
		{span{0, 5, 1, 0}, "\n", "ab cd\n"}, {span{0, 3, 1, 0}, "cd\n", "ab \n"}, {span{1, 0, 2, 0}, "\n", "\n"}, {span{1, 0, 2, 2}, "\n  ", "\n  "},
		{span{0, 0, 2, 0}, "ab cd\n\n", "\n\n"}, {span{0, 4, 3, 4}, "d\n\n  x\na_1-", "\n\n\n"},
		{span{0, 1, 3, 4}, "b cd\n\n  x\na_1-", "b c\n\n x\n_1-"}, {span{0, 4, 3, 1}, "d\n\n  x\na", "b c\n\n x\n_1-"},
		{span{0, 2, 5, 9}, " cd\n\n  x\na_1-b\nz\n012345678", " cd\n\nx\n1-b\n\n2345678"}, {span{3, 5, 5, 9}, "\nz\n012345678", "\n\n5678"},
		{span{4, 1, 5, 10}, "\n0123456789", "\n123456789"}, {span{4, 0, 5, 0}, "z\n", "\n"}, {span{2, 3, 4, 0}, "\na_1-b\n", "  x\na_1\nz"},
	} {
		for _, turned := range []bool{false, true} {
			p := stair(t, 3).goes(c.fromLine, c.fromLetters).do("begin-selection").goes(c.toLine, c.toLetters)
			if turned {
				p.do("other-end").marks(c.toLine, c.toLetters)
			}
			p.selects(c.plain).lookPicture().do("rectangle-toggle").selects(c.rectangle).lookPicture().do("rectangle-toggle").selects(c.plain)
		}
	}
}

// Letters are written in UTF-8, and counted as letters, however wide they are.
func TestP254Letters(t *testing.T) {
	p := begun(t, 9, 3, "a\u4e00\xffb", "\u00e9\U0001f600e\u0301!", "x\x07y\u4e01z").goes(0, 1).do("begin-selection").goes(2, 3)
	p.selects("\u4e00?b\n\u00e9\U0001f600e!\nx?y").do("rectangle-toggle").selects("\u4e00?\n\U0001f600e\n?y").lookPicture()
}

// Every mark with every cursor, plain and as a rectangle, is what the model says; the picture too.
func TestP254EveryPair(t *testing.T) {
	for _, lines := range [][]string{{"ab", "", "cd e"}, {"\u4e00a\u4e01", "b", "xy\u4e02z"}, {""}, {"", ""}, {"a"}} {
		for _, h := range []int{1, 3} {
			p := begun(t, 4, h, lines...).do("history-top")
			for range p.page.places {
				p.do("begin-selection")
				f := p.forked().do("history-top")
				for range f.page.places {
					f.lookPicture().do("rectangle-toggle").lookPicture().do("rectangle-toggle", "cursor-right")
				}
				p.do("cursor-right")
			}
		}
	}
}

// begin-selection, moves, other-end twice: the Selection, the cursor and the mark are what they were.
func TestP257OtherEnd(t *testing.T) {
	for seed := range 300 {
		d := dealt(70000 + seed)
		p := begun(t, 1+d.Intn(9), 1+d.Intn(6), d.lines()...)
		p.chance(d, d.Intn(20)).do("begin-selection").moves(d, d.Intn(8))
		line, letters := p.mode.Place()
		markLine, markLetters, _ := p.mode.Mark()
		text, rectangle := taken(p), p.mode.Rectangle()
		for _, want := range [][4]int{{markLine, markLetters, line, letters}, {line, letters, markLine, markLetters}} {
			p.do("other-end").selects(text).stands(want[0], want[1]).marks(want[2], want[3])
			if p.mode.Rectangle() != rectangle {
				t.Error("other-end has turned the rectangle")
			}
		}
		p.probe()
	}
}

// search-again and search-reverse come back, where the TEXT stands in two places or more.
func TestP257SearchComesBack(t *testing.T) {
	several := 0
	for seed := range 600 {
		d := dealt(71000 + seed)
		p := begun(t, 1+d.Intn(9), 1+d.Intn(6), d.lines()...).chance(d, d.Intn(20))
		text := d.text()
		if p.made("search-forward "+text) != api.OK && p.made("search-backward "+text) != api.OK {
			continue
		}
		if strings.Count(p.page.flat, strings.Join(lettersIn(text), "")) > 1 {
			several++
		}
		for range 4 {
			line, letters := p.mode.Place()
			p.do("search-again", "search-reverse").stands(line, letters).do("search-reverse", "search-again").stands(line, letters)
			p.do("search-again")
		}
	}
	if several < 50 {
		t.Errorf("%d texts stand in two places or more", several)
	}
}

// Two texts with the same letters have the same places, however their bytes are.
func TestP254SameLetters(t *testing.T) {
	a, b := begun(t, 6, 2, "a?b", "", "\u4e00?"), begun(t, 6, 2, "a\xffb\u0301", "\u200b", "\u0301\u4e00\x1b")
	for _, command := range []string{"history-top", "begin-selection", "search-forward ?", "cursor-right", "next-paragraph", "search-forward \u4e00\x00", "end-of-line"} {
		a.do(command)
		b.do(command)
		if x, y := fmt.Sprint(a.mode.Place()), fmt.Sprint(b.mode.Place()); x != y || taken(a) != taken(b) || drawn(a.mode.Picture()) != drawn(b.mode.Picture()) {
			t.Errorf("behind %s: %s %q, and %s %q", command, x, taken(a), y, taken(b))
		}
	}
}
