package copying

import (
	"fmt"
	"strings"
	"testing"

	"mullion/api"
)

// stops are the places at which a command comes by, from a place on, until it goes nowhere.
func (p *pair) stops(command string) string {
	p.t.Helper()
	var list []string
	for before := ""; ; {
		p.do(command)
		line, letters := p.mode.Place()
		now := fmt.Sprintf("%d.%d", line, letters)
		if now == before {
			return strings.Join(list, " ")
		}
		list, before = append(list, now), now
	}
}

// wanted holds the stops of a command against what the test itself says.
func (p *pair) wanted(command, want string) *pair {
	p.t.Helper()
	if got := p.stops(command); got != want {
		p.wrong("%s stops at %s, and not at %s", command, got, want)
	}
	return p
}

// Words begin and end where their letters do: at the line's bounds, over line ends, at the text's bounds.
func TestP253Words(t *testing.T) {
	for _, c := range []struct{ text, begins, ends, back string }{
		{"one two", "0.4 0.7", "0.3 0.7", "0.4 0.0"},
		{"one", "0.3", "0.3", "0.0"},
		{"  one  ", "0.2 0.7", "0.5 0.7", "0.2 0.0"},
		{"", "0.0", "0.0", "0.0"},
		{"   ", "0.3", "0.3", "0.0"},
		{"-+-", "0.3", "0.3", "0.0"},
		{"a\nb", "1.0 1.1", "0.1 1.1", "1.0 0.0"},
		{"ab\ncd ef\n\ngh", "1.0 1.3 3.0 3.2", "0.2 1.2 1.5 3.2", "3.0 1.3 1.0 0.0"},
		{"a-b_c.D9+z0", "0.2 0.6 0.9 0.11", "0.1 0.5 0.8 0.11", "0.9 0.6 0.2 0.0"},
		{" a\n b \n", "0.1 1.1 2.0", "0.2 1.2 2.0", "1.1 0.1 0.0"},
		{"\u00e9t\u00e9 \u4e00\u4e01!\u0080x", "0.4 0.8 0.9", "0.3 0.6 0.9", "0.8 0.4 0.0"},
		{"a\xffb", "0.2 0.3", "0.1 0.3", "0.2 0.0"},
		{"a\u0301b", "0.2", "0.2", "0.0"},
		{"@[`{/:^ a", "0.8 0.9", "0.9", "0.8 0.0"},
		{"AZaz09_ x", "0.8 0.9", "0.7 0.9", "0.8 0.0"},
		{"\ufffd \x7f1", "0.3 0.4", "0.1 0.4", "0.3 0.0"},
	} {
		p := begun(t, 20, 3, strings.Split(c.text, "\n")...)
		p.do("history-top").wanted("next-word", c.begins)
		p.do("history-top").wanted("next-word-end", c.ends)
		p.do("history-bottom", "end-of-line").wanted("previous-word", c.back)
	}
}

// Each letter below 80 (hexadecimal) that is one of a word, and each from there on.
func TestP253WordLetters(t *testing.T) {
	for letter := rune(0); letter < 0x3000; letter++ {
		text := strings.Join(lettersIn(string(letter)), "")
		p, _ := New([]string{"-" + text + "-"}, 9, 9)
		err := api.ErrTarget
		if strings.Contains("ABCDEFGHIJKLMNOPQRSTUVWXYZabcdefghijklmnopqrstuvwxyz0123456789_", text) || text >= "\x80" {
			err = api.OK
		}
		if text == "" {
			continue
		}
		p.Do("cursor-right")
		if got := p.Do("select-word"); got != err {
			t.Errorf("select-word ahead of %q answers %d, and not %d", letter, got, err)
		}
	}
}

// From each place on: the words behind it and ahead of it.
func TestP253WordsFromAnywhere(t *testing.T) {
	next := []string{"0.5", "0.5", "0.5", "0.5", "0.5", "2.1", "2.1", "2.1", "2.1", "2.1", "2.4", "2.4", "2.4", "2.5", "2.5"}
	ends := []string{"0.3", "0.3", "0.3", "0.7", "0.7", "0.7", "0.7", "2.3", "2.3", "2.3", "2.3", "2.3", "2.5", "2.5", "2.5"}
	back := []string{"0.0", "0.0", "0.0", "0.0", "0.0", "0.0", "0.5", "0.5", "0.5", "0.5", "0.5", "2.1", "2.1", "2.1", "2.4"}
	places := []string{"0.0", "0.1", "0.2", "0.3", "0.4", "0.5", "0.6", "0.7", "1.0", "2.0", "2.1", "2.2", "2.3", "2.4", "2.5"}
	for i, at := range places {
		var line, letters int
		fmt.Sscanf(at, "%d.%d", &line, &letters)
		for command, want := range map[string]string{"next-word": next[i], "next-word-end": ends[i], "previous-word": back[i]} {
			p := begun(t, 20, 3, "one  to", "", " ab-c").goes(line, letters).do(command)
			if line, letters := p.mode.Place(); fmt.Sprintf("%d.%d", line, letters) != want {
				t.Errorf("%s goes from %s to %d.%d, and not to %s", command, at, line, letters, want)
			}
		}
	}
}

// A paragraph's end is a line without letters, each one of several; else the text's bound.
func TestP253Paragraphs(t *testing.T) {
	p := begun(t, 20, 4, "a", "b c", "", "", " ", "d", "", "ef")
	p.do("history-top").wanted("next-paragraph", "2.0 3.0 6.0 7.2")
	p.wanted("previous-paragraph", "6.0 3.0 2.0 0.0")
	p.goes(1, 2).do("next-paragraph").at(2, 0, 0).goes(1, 2).do("previous-paragraph").at(0, 0, 0)
	p.goes(4, 1).do("next-paragraph").at(6, 0, 3).goes(4, 1).do("previous-paragraph").at(3, 0, 3).goes(3, 0).do("previous-paragraph").at(2, 0, 2)
	p = begun(t, 20, 4, "", "a", "")
	p.do("history-top").wanted("next-paragraph", "2.0").wanted("previous-paragraph", "0.0")
	p.goes(1, 1).do("previous-paragraph").at(0, 0, 0).do("next-paragraph").at(2, 0, 0).do("next-paragraph").at(2, 0, 0)
	begun(t, 20, 4, "ab").wanted("next-paragraph", "0.2").wanted("previous-paragraph", "0.0")
	begun(t, 20, 4, "ab", "\u0301\u200b", "c").do("history-top").wanted("next-paragraph", "1.0 2.1")
	begun(t, 20, 4, "ab", "  ", "c").do("history-top").wanted("next-paragraph", "2.1").wanted("previous-paragraph", "0.0")
}
