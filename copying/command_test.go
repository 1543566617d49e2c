package copying

import (
	"slices"
	"strings"
	"testing"

	"mullion/api"
)

func names() []string {
	var list []string
	for _, order := range strings.Fields(orders) {
		name, _, _ := strings.Cut(order, "=")
		list = append(list, name)
	}
	return list
}

// Commands tells all names, rising as bytes.
func TestP252Commands(t *testing.T) {
	want := names()
	slices.Sort(want)
	got := Commands()
	if !slices.Equal(got, want) || len(got) != 38 {
		t.Errorf("Commands tells %q, and not %q", got, want)
	}
	if !slices.IsSorted(got) || got[0] != "back-to-indentation" || got[9] != "goto-line" || got[37] != "top-line" {
		t.Errorf("Commands tells %q", got)
	}
}

// What is told is what the commands have done.
func TestP252Looking(t *testing.T) {
	p := begun(t, 20, 2, "one two", "", "  three_3 four").at(2, 0, 1).marks()
	p.do("cursor-right").at(2, 1, 1).marks().do("begin-selection").at(2, 1, 1).marks(2, 1)
	p.do("history-top").at(0, 0, 0).marks(2, 1).do("other-end").at(2, 1, 1).marks(0, 0)
	if p.mode.Rectangle() || !p.do("rectangle-toggle").mode.Rectangle() || p.do("rectangle-toggle").mode.Rectangle() {
		t.Error("rectangle-toggle does not turn it")
	}
	p.do("clear-selection").at(2, 1, 1).marks()
	for range 3 {
		p.look().lookPicture()
	}
}

// A command is its name, or its name, a blank and an argument; else it is refused, and nothing has changed.
func TestP253Refused(t *testing.T) {
	p := chapters(t).goes(0, 2).do("begin-selection", "rectangle-toggle", "search-forward o", "jump-backward t", "scroll-up")
	line, letters := p.mode.Place()
	top := p.mode.Top()
	refused := func(command string, want api.Errno) {
		t.Helper()
		p.answers(command, want).at(line, letters, top).marks(0, 2).probe()
	}
	for _, name := range names() {
		is, takes := asks(name)
		if !is {
			t.Fatal(name)
		}
		for _, wrong := range []string{" " + name, name + "\n", name + "\t", "-" + name, name + "-", strings.ToUpper(name), name[1:], name[:len(name)-1], name + name, name + "\x00", "\"" + name + "\"", name + "\u00a0x", name + "\t3"} {
			if is, _ := asks(wrong); !is {
				refused(wrong, api.ErrVerb)
				if !strings.HasPrefix(wrong, " ") {
					refused(wrong+" ", api.ErrVerb)
					refused(wrong+" x", api.ErrVerb)
				}
			}
		}
		if takes {
			refused(name, api.ErrNeeds)
			refused(name+" ", api.ErrNeeds)
			continue
		}
		for _, more := range []string{" ", "  ", " 1", " x y", " \xff", " " + name, " \n"} {
			refused(name+more, api.ErrCount)
		}
	}
	for _, wrong := range []string{"", " ", "  ", " x", "fly", "fly ", "fly 3", "\xff", "copy cursor-up", "cursor", "search", "cancel", "copy-selection", "page", "goto-line\n3", strings.Repeat("x", 1<<16)} {
		refused(wrong, api.ErrVerb)
	}
}

// Arguments that can't be: which they are, and that nothing has changed.
func TestP253Values(t *testing.T) {
	p := chapters(t).goes(0, 2).do("search-forward o", "jump-backward t")
	line, letters := p.mode.Place()
	top := p.mode.Top()
	wrong := map[string][]string{
		"goto-line":       {"x", "-1", "+1", "00", "01", " 1", "1 ", "1.0", "0x1", "1\n", "\x00", "\xff", "4611686018427387905", "9223372036854775807", "9223372036854775808", "18446744073709551616", "99999999999999999999", "\u0661", "1 2", "  ", "1_0"},
		"search-forward":  {"\u0301", "\u200b\ufeff", "\u0300\u036f"},
		"search-backward": {"\u0301", "\u200b\ufeff"},
		"jump-forward":    {"ab", "\u0301", "  ", " a", "a ", "\xff\xff", "\xe4\xb8", "\u4e00\u4e00", "\u4e00a", "\ufeff"},
		"jump-backward":   {"ab", "\u0301", "  ", "uu", "\n\n"},
	}
	for name, list := range wrong {
		for _, argument := range list {
			p.answers(name+" "+argument, api.ErrValue).at(line, letters, top).probe()
		}
	}
}
