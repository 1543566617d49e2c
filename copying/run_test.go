package copying

import (
	"fmt"
	"maps"
	"slices"
	"strings"
	"testing"

	"mullion/api"
)

// Long runs over texts by chance: behind each command all is asked but the picture, and now and then what shows only later.
func TestP256LongRuns(t *testing.T) {
	reached := map[string]int{}
	for seed := range 250 {
		d := dealt(seed)
		p := begun(t, 1+d.Intn(12), 1+d.Intn(8), d.lines()...)
		for i := range 120 {
			command := d.command()
			reached[told(command, p.made(command))]++
			if i%15 == 0 {
				p.probe()
			}
			if t.Failed() {
				return
			}
		}
	}
	for _, name := range names() {
		for _, err := range answersOf(name) {
			if answer := told(name, err); reached[answer] < 2 {
				t.Errorf("the runs have %q %d times: %v", answer, reached[answer], slices.Sorted(maps.Keys(reached)))
			}
		}
	}
}

// answersOf is what a command of that name may answer.
func answersOf(name string) []api.Errno {
	seeks := strings.HasPrefix(name, "search") || strings.HasPrefix(name, "jump")
	kept := name == "other-end" || strings.HasSuffix(name, "again") || strings.HasSuffix(name, "reverse")
	list := []api.Errno{api.OK}
	if _, takes := asks(name); takes {
		list = append(list, api.ErrNeeds, api.ErrValue)
	} else {
		list = append(list, api.ErrCount)
	}
	if kept {
		list = append(list, api.ErrMode)
	}
	if seeks || name == "select-word" {
		list = append(list, api.ErrTarget)
	}
	return list
}

// where is all of a look back that hangs on the moves made.
func (p *pair) where() string {
	return fmt.Sprint(p.page.cursor, p.page.wished, p.page.top, p.page.letter, p.page.text)
}

// From each place with each column wished for in each view that can be had: every command.
func TestP253EveryCommandFromEverywhere(t *testing.T) {
	arguments := map[string][]string{
		"goto-line": {"0", "1", "2", "9", "x"}, "search-forward": {"b", "ab", "q"}, "search-backward": {"b", "q"}, "jump-forward": {"a", "b"}, "jump-backward": {"a"},
	}
	var commands []string
	for _, name := range names() {
		if _, takes := asks(name); !takes {
			commands = append(commands, name)
		}
		for _, argument := range arguments[name] {
			commands = append(commands, name+" "+argument)
		}
	}
	states := 0
	for _, lines := range [][]string{{"ab b", "", " a"}, {"", "ab", "", "b"}, {"a", "b", "\u4e00b", "", "-a"}, {"b", "-", "a b"}} {
		for h := 1; h <= len(lines)+1; h++ {
			states += begun(t, 4, h, lines...).everywhere(commands, 400)
		}
	}
	if states < 3000 {
		t.Errorf("only %d beginnings", states)
	}
}

// everywhere does every command from so many of the places that they lead to.
func (p *pair) everywhere(commands []string, most int) int {
	p.t.Helper()
	seen := map[string]bool{p.where(): true}
	list := []*pair{p}
	for n := 0; n < len(list) && n < most; n++ {
		for _, command := range commands {
			f := list[n].forked()
			if f.made(command); !seen[f.where()] {
				seen[f.where()] = true
				list = append(list, f)
			}
		}
		if p.t.Failed() {
			break
		}
	}
	return min(len(list), most)
}

// All runs of two commands, and what shows behind them only later.
func TestP253EveryTwoCommands(t *testing.T) {
	var commands []string
	for _, name := range names() {
		switch _, takes := asks(name); {
		case !takes:
			commands = append(commands, name)
		case name == "goto-line":
			commands = append(commands, "goto-line 1")
		default:
			commands = append(commands, name+" a", name+" q")
		}
	}
	for _, begin := range [][]string{nil, {"goto-line 1", "cursor-right"}, {"goto-line 2", "begin-selection", "rectangle-toggle", "search-backward b", "jump-backward a"}} {
		for _, one := range commands {
			p := begun(t, 5, 2, "ab a", "b-ab", "", "a \u4e00b").chosen(begin...)
			p.made(one)
			for _, two := range commands {
				f := p.forked()
				f.made(two)
				f.probe()
			}
		}
	}
}

func (p *pair) chosen(commands ...string) *pair {
	p.t.Helper()
	for _, command := range commands {
		p.made(command)
	}
	return p
}

// seen is all that can be seen of a look back.
func seen(m *Mode) string {
	line, letters := m.Place()
	markLine, markLetters, marked := m.Mark()
	text, is := m.Selection()
	return fmt.Sprint(line, letters, m.Top(), markLine, markLetters, marked, m.Rectangle(), is, text)
}

// Without the model: the cursor and the mark are places, the cursor's line is in the view, the view in the text; a command with an error moves nothing.
func TestP256WhatHolds(t *testing.T) {
	failed := map[api.Errno]int{}
	for seed := range 150 {
		d := dealt(60000 + seed)
		lines := d.lines()
		lengths := []int{0}
		for i, line := range lines {
			lengths = append(lengths[:i], len(lettersIn(line)))
		}
		w, h := 1+d.Intn(9), 1+d.Intn(8)
		m, _ := New(lines, w, h)
		for range 150 {
			before, command := seen(m), d.command()
			err := m.Do(command)
			if failed[err]++; err != api.OK && seen(m) != before {
				t.Fatalf("%q answers %d, and %s has become %s", command, err, before, seen(m))
			}
			line, letters := m.Place()
			if line < 0 || line >= len(lengths) || letters < 0 || letters > lengths[line] {
				t.Fatalf("behind %q the cursor stands at %d, %d: %q", command, line, letters, lines)
			}
			if top := m.Top(); top < 0 || top > max(0, len(lengths)-h) || line < top || line >= top+h {
				t.Fatalf("behind %q the view begins at %d, the cursor's line is %d of %d, and h %d", command, top, line, len(lengths), h)
			}
			line, letters, is := m.Mark()
			if line < 0 || line >= len(lengths) || letters < 0 || letters > lengths[line] || !is && (line != 0 || letters != 0) {
				t.Fatalf("behind %q the mark stands at %d, %d, %v: %q", command, line, letters, is, lines)
			}
			if text, ok := m.Selection(); ok != is || !ok && text != "" {
				t.Fatalf("behind %q %q is selected, %v, and the mark is there: %v", command, text, ok, is)
			}
			p := m.Picture()
			if p.W != w || p.H != h || len(p.Places) != w*h || p.X < 0 || p.X >= w || p.Y < 0 || p.Y >= h || p.Hidden || p.Title != "" {
				t.Fatalf("behind %q: %s", command, drawn(p))
			}
		}
	}
	for _, err := range []api.Errno{0, 110, 120, 123, 124, 125, 250} {
		if failed[err] < 20 {
			t.Errorf("%d is answered %d times", err, failed[err])
		}
	}
}

// A search and a jump that go there find what they seek, and nothing lies between.
func TestP256SearchesFind(t *testing.T) {
	found := 0
	for seed := range 200 {
		d := dealt(61000 + seed)
		m, _ := New(d.lines(), 9, 3)
		for range 20 {
			text := d.text()
			m.Do(d.of("history-top", "history-bottom", "page-up", "cursor-right", "next-word"))
			if m.Do(d.of("search-forward ", "search-backward ")+text) != api.OK {
				continue
			}
			letters := strings.Join(lettersIn(text), "")
			m.Do("begin-selection")
			for range lettersIn(text) {
				m.Do("cursor-right")
			}
			if got, _ := m.Selection(); got != letters {
				t.Fatalf("behind a search for %q stands %q", letters, got)
			}
			found++
		}
	}
	if found < 500 {
		t.Errorf("%d are found", found)
	}
}
