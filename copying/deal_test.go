package copying

import (
	"math/rand"
	"strconv"
	"strings"

	"mullion/api"
)

// dealer makes texts and commands by chance.
type dealer struct{ *rand.Rand }

func dealt(seed int) dealer { return dealer{rand.New(rand.NewSource(int64(seed)))} }

func (d dealer) of(list ...string) string { return list[d.Intn(len(list))] }

func (d dealer) letter() string {
	switch d.Intn(12) {
	case 0:
		return d.of("\u4e00", "\uac00", "\U0001f600", "\uff01")
	case 1:
		return d.of("\xff", "\x80", "\xe4\xb8", "\x00", "\t", "\x7f", "\u0085", "?", "\ufffd", "\xf0\x9f")
	case 2:
		return d.of("\u0301", "\u200b", "\u00e9", "\u0430")
	case 3:
		return d.of("-", ".", "/", "@", "[", "`", "{")
	case 4, 5, 6:
		return " "
	case 7:
		return d.of("A", "Z", "0", "9", "_")
	}
	return d.of("a", "a", "b", "z")
}

func (d dealer) line(longest int) string {
	var line strings.Builder
	for range d.Intn(longest + 1) {
		line.WriteString(d.letter())
	}
	return line.String()
}

func (d dealer) lines() []string {
	list := make([]string, d.Intn(9))
	longest := 1 + d.Intn(9)
	for i := range list {
		switch d.Intn(6) {
		case 0:
		case 1:
			list[i] = strings.Repeat(d.of("ab", "a", "aab", "\u4e00a", " "), d.Intn(4))
		default:
			list[i] = d.line(longest)
		}
	}
	return list
}

// text is what is sought: it stands mostly somewhere.
func (d dealer) text() string {
	if d.Intn(3) == 0 {
		return d.letter() + d.letter() + d.line(2)
	}
	return d.of("a", "b", "ab", "aa", "aab", "?", " ", "  ", "\u4e00", "a\u0301", "\u4e00a", "\xff", "z", "_", "ba")
}

// name is one of the commands that take an argument, or of those that take none.
func (d dealer) name(wanted bool) string {
	for {
		name := d.of(names()...)
		if _, takes := asks(name); takes == wanted {
			return name
		}
	}
}

func (d dealer) bare() string   { return d.name(false) }
func (d dealer) asking() string { return d.name(true) }

// move is a command that goes somewhere, if it is not refused, and leaves the mark and the rectangle as they are.
func (d dealer) move() string {
	for {
		name := d.command()
		if !strings.Contains(name, "select") && !strings.HasPrefix(name, "other-end") && !strings.HasPrefix(name, "rectangle") {
			return name
		}
	}
}

func (d dealer) command() string {
	switch d.Intn(16) {
	case 0:
		return d.of("search-forward ", "search-backward ") + d.text()
	case 1:
		return d.of("jump-forward ", "jump-backward ") + d.of(d.letter(), d.letter(), d.text())
	case 2:
		return "goto-line " + d.of(strconv.Itoa(d.Intn(12)), strconv.Itoa(d.Intn(12)), "x", "01", "99999999999999999999", "4611686018427387904", "")
	case 3:
		return d.of(d.bare()+" ", d.bare()+" 1", d.bare()+"s", d.asking(), d.asking()+" ", d.asking()+" \u0301", "", " ", "cancel")
	case 4, 5:
		return d.of("cursor-up", "cursor-down", "page-up", "page-down", "scroll-up", "scroll-down", "halfpage-up", "halfpage-down")
	case 6:
		return d.of("search-again", "search-reverse", "jump-again", "jump-reverse", "begin-selection", "select-word")
	}
	return d.bare()
}

// chance does so many commands, some of which are refused.
func (p *pair) chance(d dealer, n int) *pair {
	p.t.Helper()
	for range n {
		p.made(d.command())
	}
	return p
}

func (p *pair) moves(d dealer, n int) *pair {
	p.t.Helper()
	for range n {
		p.made(d.move())
	}
	return p
}

// told is the name of a command, and what it answered.
func told(command string, err api.Errno) string {
	name, _, _ := strings.Cut(command, " ")
	return name + " " + strconv.Itoa(int(err))
}
