package copying

import (
	"fmt"
	"slices"
	"strings"
	"testing"

	"mullion/api"
)

func (p *pair) stands(line, letters int) *pair {
	p.t.Helper()
	if l, c := p.mode.Place(); l != line || c != letters {
		p.wrong("at %d, %d, and not at %d, %d", l, c, line, letters)
	}
	return p
}

// A search goes to the next place, and round; each of overlapping ones is a place.
func TestP253Search(t *testing.T) {
	p := begun(t, 20, 2, "aXa", "aaaa", "", "baab")
	p.do("history-top", "search-forward aa").stands(1, 0).do("search-again").stands(1, 1).do("search-again").stands(1, 2).do("search-again").stands(3, 1).do("search-again").stands(1, 0)
	p.do("search-reverse").stands(3, 1).do("search-reverse").stands(1, 2).do("search-reverse").stands(1, 1).do("search-reverse").stands(1, 0)
	p.do("history-top", "search-backward aa").stands(3, 1).do("search-again").stands(1, 2).do("search-reverse").stands(3, 1).do("search-reverse").stands(1, 0)
	p.goes(1, 1).do("search-forward aa").stands(1, 2).goes(1, 1).do("search-backward aa").stands(1, 0).goes(1, 3).do("search-backward aa").stands(1, 2)
	p.goes(3, 2).do("search-forward aa").stands(1, 0).goes(1, 0).do("search-backward aa").stands(3, 1).goes(0, 0).do("search-forward a").stands(0, 2).do("search-backward a").stands(0, 0)
	p.goes(3, 4).do("search-backward b").stands(3, 3).do("search-again").stands(3, 0).do("search-again").stands(3, 3)

	// The only place, from ahead of it, at it and behind it.
	for _, letters := range []int{0, 1, 2} {
		p.goes(0, letters).do("search-forward X").stands(0, 1).do("search-again").stands(0, 1).do("search-reverse").stands(0, 1)
		p.goes(0, letters).do("search-backward X").stands(0, 1).do("search-again").stands(0, 1).do("search-reverse").stands(0, 1)
	}
}

// A TEXT stands in one line, as letters.
func TestP253SearchLetters(t *testing.T) {
	p := begun(t, 20, 3, "ab", "cd?e\u0301f", "\u4e00\xff\u4e01 \u00e9")
	for _, c := range []struct {
		text          string
		line, letters int
	}{
		{"ab", 0, 0}, {"b", 0, 1}, {"cd", 1, 0}, {"?e", 1, 2}, {"\xffe", 1, 2}, {"ef", 1, 3}, {"e\u0301f", 1, 3}, {"\u0301f", 1, 4}, {"f", 1, 4}, {"cd?ef", 1, 0}, {"\x00ef", 1, 2},
		{"\u4e00", 2, 0}, {"\u4e00?\u4e01", 2, 0}, {"?\u4e01", 2, 1}, {"\u4e01 ", 2, 2}, {" ", 2, 3}, {" \u00e9", 2, 3}, {"\u00e9", 2, 4}, {"\u200b\u00e9\ufeff", 2, 4},
	} {
		p.do("history-top", "end-of-line", "search-forward "+c.text).stands(c.line, c.letters)
		p.do("history-top", "search-backward "+c.text).stands(c.line, c.letters)
		p.do("history-top", "search-again").stands(c.line, c.letters)
	}
	for _, text := range []string{"bc", "b\nc", "b c", "abc", "ab ", "e\u0302g", "\u4e00\u4e01", "\xb8\x80", "A", "cd?eff", "\u00e9\u00e9", "??", "d?f"} {
		p.answers("search-forward "+text, api.ErrTarget).answers("search-backward "+text, api.ErrTarget).answers("search-again", api.ErrTarget).answers("search-reverse", api.ErrTarget)
	}
}

// What is behind the first blank is the argument, blanks too.
func TestP253ArgumentBlanks(t *testing.T) {
	p := begun(t, 20, 5, "a b", "a  b", " a", "b ").do("history-top")
	p.do("search-forward a  b").stands(1, 0).do("search-forward  a").stands(2, 0).do("search-forward  ").stands(3, 1)
	p.do("history-top", "search-forward   ").stands(1, 1).do("history-top", "search-forward   b").stands(1, 1).do("history-top", "search-forward b ").stands(3, 0)
	p.do("history-top", "jump-forward  ").stands(0, 1).goes(1, 4).do("jump-backward  ").stands(1, 2).do("jump-again").stands(1, 1).answers("jump-again", api.ErrTarget)
}

// The TEXT is kept with its direction, also where nothing is found; what is refused otherwise keeps nothing.
func TestP253SearchKept(t *testing.T) {
	p := begun(t, 20, 5, "xay", "xby", "xay", "xby").do("history-top")
	p.answers("search-forward nowhere", api.ErrTarget).stands(0, 0).answers("search-again", api.ErrTarget).answers("search-reverse", api.ErrTarget).stands(0, 0)
	p.do("search-backward b").stands(3, 1).answers("search-forward \u0301", api.ErrValue).answers("search-forward", api.ErrNeeds).answers("search-forward ", api.ErrNeeds)
	p.do("search-again").stands(1, 1).do("search-again").stands(3, 1).do("search-reverse").stands(1, 1)
	p.do("search-again").stands(3, 1) // search-reverse has kept no direction
	p.do("search-reverse", "search-reverse").stands(3, 1).do("search-again").stands(1, 1)
	p.do("search-forward a").stands(2, 1).answers("search-backward nowhere", api.ErrTarget).answers("search-again", api.ErrTarget)
	p.do("search-forward y", "history-top", "search-again").stands(0, 2).do("jump-backward x").stands(0, 0).do("search-again").stands(0, 2)
	p = begun(t, 20, 5, "a", "b").answers("search-again", api.ErrMode).answers("search-backward \u200b", api.ErrValue).answers("search-again", api.ErrMode).answers("search-reverse", api.ErrMode)
	p.answers("jump-forward b", api.ErrTarget).answers("search-reverse", api.ErrMode).do("begin-selection", "clear-selection").answers("search-reverse", api.ErrMode)
}

// A jump stays in its line; the letter behind the cursor itself does not count.
func TestP253Jump(t *testing.T) {
	p := begun(t, 20, 5, "o..o.o", "o", "..o").do("history-top")
	p.do("jump-forward o").stands(0, 3).do("jump-again").stands(0, 5).answers("jump-again", api.ErrTarget).stands(0, 5)
	p.do("jump-reverse").stands(0, 3).do("jump-again").stands(0, 5).do("jump-reverse").stands(0, 3).do("jump-reverse").stands(0, 0).answers("jump-reverse", api.ErrTarget).stands(0, 0)
	p.goes(0, 6).do("jump-backward o").stands(0, 5).do("jump-again").stands(0, 3).do("jump-reverse").stands(0, 5).answers("jump-reverse", api.ErrTarget)
	p.goes(0, 4).do("jump-forward o").stands(0, 5).goes(0, 4).do("jump-backward o").stands(0, 3).goes(0, 1).do("jump-backward o").stands(0, 0)
	for _, command := range []string{"jump-forward o", "jump-backward o"} {
		p.goes(1, 0).answers(command, api.ErrTarget).stands(1, 0)
	}
	p.goes(1, 1).answers("jump-forward o", api.ErrTarget).do("jump-backward o").stands(1, 0)
	p.goes(2, 3).answers("jump-forward o", api.ErrTarget).goes(2, 2).answers("jump-backward o", api.ErrTarget).goes(2, 0).answers("jump-backward o", api.ErrTarget).do("jump-forward o").stands(2, 2)
}

// The LETTER is one letter, of whatever bytes; it is kept with its direction, also where nothing is found.
func TestP253JumpKept(t *testing.T) {
	p := begun(t, 20, 5, "a\u4e00?\u00e9 b\u4e00?\u00e9 c").do("history-top")
	p.do("jump-forward \u4e00").stands(0, 1).do("jump-forward \xff").stands(0, 2).do("jump-forward \x01").stands(0, 7).do("jump-backward \u00e9\u0301").stands(0, 3)
	p.answers("jump-forward z", api.ErrTarget).answers("jump-again", api.ErrTarget).answers("jump-reverse", api.ErrTarget).stands(0, 3)
	p.do("jump-forward  ").stands(0, 4).answers("jump-backward ab", api.ErrValue).answers("jump-backward \u0301", api.ErrValue).answers("jump-backward", api.ErrNeeds)
	p.do("jump-again").stands(0, 9).do("jump-reverse").stands(0, 4).do("jump-again").stands(0, 9)
	p.answers("jump-backward q", api.ErrTarget).answers("jump-again", api.ErrTarget).do("search-forward a").stands(0, 0).answers("jump-again", api.ErrTarget)
	p = begun(t, 20, 5, "a", "bb").answers("jump-again", api.ErrMode).answers("jump-forward bb", api.ErrValue).answers("jump-again", api.ErrMode).answers("jump-reverse", api.ErrMode)
	p.answers("search-forward x", api.ErrTarget).answers("jump-reverse", api.ErrMode).answers("jump-forward x", api.ErrTarget).answers("jump-reverse", api.ErrTarget)
}

// places are where a command leads to, done n times from the end of the first line on.
func places(m *Mode, command string, n int) (list []int, err api.Errno) {
	m.Do("history-top")
	m.Do("end-of-line")
	for range n {
		err = m.Do(command)
		_, at := m.Place()
		list = append(list, at)
	}
	return list, err
}

// Every short TEXT over two letters, in a few lines of them: each place, also where one reaches into another.
func TestP253SearchShortTexts(t *testing.T) {
	for _, line := range []string{"abaababaabaab", "aaaabaaab", "abababbabab", "bbbbbbbb", "aabaabaaab"} {
		m, _ := New([]string{line}, 20, 2)
		for n := 1; n <= 6; n++ {
			for bits := range 1 << n {
				text := strings.NewReplacer("0", "a", "1", "b").Replace(fmt.Sprintf("%0*b", n, bits))
				var want []int
				for i := range line {
					if strings.HasPrefix(line[i:], text) {
						want = append(want, i)
					}
				}
				if len(want) == 0 {
					_, err := places(m, "search-forward "+text, 1)
					_, other := places(m, "search-backward "+text, 1)
					if err != api.ErrTarget || other != api.ErrTarget {
						t.Errorf("%s does not stand in %s: %d, %d", text, line, err, other)
					}
					continue
				}
				got, _ := places(m, "search-forward "+text, len(want))
				back, _ := places(m, "search-backward "+text, len(want))
				slices.Reverse(back)
				if !slices.Equal(got, want) || !slices.Equal(back, want) {
					t.Errorf("%s stands in %s at %v, and is found at %v, backward at %v", text, line, want, got, back)
				}
			}
		}
	}
}
