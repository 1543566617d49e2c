package options

import (
	"math"
	"strconv"
	"strings"
	"testing"

	"mullion/api"
)

// good is a value of each kind, another one than that of the beginning.
func good(r row) string {
	switch r.kind {
	case "number":
		return "3"
	case "flag":
		if r.first == "on" {
			return "off"
		}
		return "on"
	case "key":
		return "M-x"
	case "choice":
		words := strings.Split(r.form, "|")
		return words[len(words)-1]
	}
	return "some text"
}

// bad is a value that is none of the option's kind; there is none of a text but such as are too long.
func bad(r row) string {
	if r.kind == "text" {
		return strings.Repeat("x", 1025)
	}
	return "no value"
}

func TestOP2NoSuchOption(t *testing.T) {
	p := begun(t)
	for _, name := range noNames() {
		for scope := range 6 {
			p.set(scope, 0, name, "on", api.ErrOption)
			p.set(scope, -1, name, strings.Repeat("x", 1025), api.ErrOption)
		}
	}
	p.look()
}

// scopesOf are those for which an option can be set.
func scopesOf(r row) []int {
	if r.scope == 4 {
		return []int{3, 4}
	}
	return []int{r.scope}
}

func TestOP2Scopes(t *testing.T) {
	for _, r := range sheet {
		p := begun(t)
		for _, scope := range []int{math.MinInt, -2, -1, 0, 1, 2, 3, 4, 5, 6, 1<<32 + r.scope, math.MaxInt} {
			want := api.ErrScope
			if scope == r.scope || r.scope == api.ScopePane && scope == api.ScopeWindow {
				want = api.OK
			}
			p.set(scope, 0, r.name, good(r), want).look()
		}
	}
}

// An option of windows can't be set for a pane, though one of panes can be set for a window.
func TestOP2ScopesByTheirNames(t *testing.T) {
	p := begun(t)
	p.set(api.ScopePane, 1, "synchronize", "on", api.ErrScope)
	p.set(api.ScopeWindow, 1, "synchronize", "on", api.OK)
	p.set(api.ScopeWindow, 1, "wrap-search", "off", api.OK)
	p.set(api.ScopePane, 1, "wrap-search", "off", api.OK)
	p.set(api.ScopeSession, 1, "wrap-search", "off", api.ErrScope)
	p.set(api.ScopeServer, 0, "wrap-search", "off", api.ErrScope)
	p.set(api.ScopeSession, 0, "buffer-limit", "3", api.ErrScope)
	p.set(api.ScopeServer, 0, "prefix", "C-a", api.ErrScope)
	p.set(api.ScopeWindow, 0, "prefix", "C-a", api.ErrScope)
	p.look()
}

func TestOP2Ids(t *testing.T) {
	for _, r := range sheet {
		for _, scope := range scopesOf(r) {
			p := begun(t)
			for _, id := range []int{-1, math.MinInt, math.MinInt + 1, -(1 << 62), api.MaxNumber + 1, math.MaxInt} {
				p.set(scope, id, r.name, good(r), api.ErrArg)
			}
			p.look()
			p.set(scope, 0, r.name, good(r), api.OK).look()
			for _, id := range []int{1, 2, 10000, api.MaxNumber - 1, api.MaxNumber} {
				want := api.OK
				if scope == api.ScopeServer {
					want = api.ErrArg
				}
				p.set(scope, id, r.name, good(r), want)
			}
			p.look()
		}
	}
}

// bounds are the numbers of 23.1.
var bounds = []struct {
	name            string
	least, greatest int
}{
	{"base-index", 0, 9999}, {"buffer-limit", 1, 20}, {"display-lines", 1, 50},
	{"escape-time", 0, 100}, {"history-limit", 0, 2000}, {"repeat-time", 0, 100},
}

func TestOP2Numbers(t *testing.T) {
	for _, b := range bounds {
		r, _ := rowOf(b.name)
		p := begun(t)
		for n := -5; n <= 10050; n++ {
			want := api.ErrValue
			if n >= b.least && n <= b.greatest {
				want = api.OK
			}
			p.set(r.scope, 0, b.name, strconv.Itoa(n), want).get(b.name, 0, 0, 0)
		}
		p.look()
		p.set(r.scope, 0, b.name, strconv.Itoa(b.least), api.OK).is(b.name, 0, 0, 0, strconv.Itoa(b.least))
		p.set(r.scope, 0, b.name, strconv.Itoa(b.greatest), api.OK).is(b.name, 0, 0, 0, strconv.Itoa(b.greatest))
		for _, value := range []string{
			"", " ", "03", "00", "000", "-0", "-3", "+3", " 3", "3 ", "3\n", "\t3", "3.0", "3e0", "0x3", "0b1", "1_0", "three", "3a", "a3", "on",
			"\x003", "3\x00", "\u0663", "\uff13", strconv.Itoa(b.least - 1), strconv.Itoa(b.greatest + 1), "0" + strconv.Itoa(b.greatest), strconv.Itoa(b.greatest) + "0",
			"4611686018427387904", "4611686018427387905", "9223372036854775808", "18446744073709551616", "18446744073709551619", "4294967299",
			strings.Repeat("9", 100), strings.Repeat("0", 5000) + "3", strings.Repeat("3", 2000),
		} {
			p.set(r.scope, 0, b.name, value, api.ErrValue)
		}
		p.look()
	}
}

func TestOP2Choices(t *testing.T) {
	choices := map[string][]string{
		"mode-style":      {"plain", "reverse", "bold"},
		"pane-border":     {"line", "double", "blank"},
		"status-position": {"bottom", "top"},
	}
	for name, words := range choices {
		r, _ := rowOf(name)
		p := begun(t)
		for _, word := range words {
			p.set(r.scope, 1, name, word, api.OK).is(name, 1, 1, 1, word).look()
			for _, near := range []string{strings.ToUpper(word), word[:1], word[1:], word[:len(word)-1], word + " ", " " + word, word + "\x00", word + "s", word + word, word + "|" + word} {
				p.set(r.scope, 1, name, near, api.ErrValue)
			}
		}
		for other, theirs := range choices {
			for _, word := range theirs {
				if other != name {
					p.set(r.scope, 1, name, word, api.ErrValue)
				}
			}
		}
		for _, value := range []string{"", "on", "off", "0", "1", "2", "none", "plain reverse bold", strings.Join(words, " "), strings.Join(words, ""), strings.Repeat("b", 2000)} {
			p.set(r.scope, 1, name, value, api.ErrValue)
		}
		p.look()
	}
}

func TestOP2Flags(t *testing.T) {
	flags := 0
	for _, r := range sheet {
		if r.kind != "flag" {
			continue
		}
		flags++
		for _, scope := range scopesOf(r) {
			p := begun(t)
			for _, value := range []string{"on", "off", "off", "on", "on", "off"} {
				p.set(scope, 1, r.name, value, api.OK).is(r.name, 1, 1, scope/4, value).look()
			}
			for _, value := range []string{"", "yes", "no", "true", "false", "0", "1", "On", "ON", "oN", "OFF", "Off", "o", "of", "onoff", "on ", " on", "off ", "on\n", "offf", "onn", "\x00on", strings.Repeat("on", 600)} {
				p.set(scope, 1, r.name, value, api.ErrValue)
			}
			p.look()
		}
	}
	if flags != 6 {
		t.Errorf("%d flags", flags)
	}
}

func TestOP2Keys(t *testing.T) {
	p := begun(t)
	for _, value := range []string{
		"C-a", "C-z", "a", "Z", "!", "~", "-", "M--", "M-x", "M-a", "C-M-a", "C-\\", "C-]", "C-^", "C-_", "Space", "C-Space", "M-Space", "C-M-Space",
		"Enter", "M-Enter", "Tab", "Escape", "BSpace", "M-BSpace", "Up", "C-Up", "C-M-S-Left", "S-F12", "F1", "F10", "PageDown", "M-Delete", "BTab",
		"\u00e9", "M-\u00e9", "\u00a0", "\U0001f600", "\U0010ffff", "\ufffd", "\u4e00",
	} {
		p.set(2, 1, "prefix", value, api.OK).is("prefix", 1, 0, 0, value)
	}
	p.look()
	for _, value := range []string{
		"", " ", "C-i", "C-m", "C-[", "C-A", "C-1", "C-", "M-", "S-", "C-M-", "S-a", "M-C-a", "S-C-Up", "C-C-a", "M-M-a", "c-a", "^A", "ab", "C-ab",
		"space", "SPACE", "F0", "F13", "F01", "Up2", "up", "S-Space", "C-Enter", "C-Tab", "S-Tab", "M-BTab", "C-BTab", "S-BTab", "C-Escape", "Return", "BackSpace",
		"C-b ", " C-b", "C-b\n", "\n", "\x02", "\x1b", "\x7f", "\u0080", "\u009f", "\xc3", "\xff", "\xed\xa0\x80", "\xf4\x90\x80\x80", "\xc1\x81", "a\x00", "none", "None", "on",
		strings.Repeat("C-", 500) + "a", strings.Repeat("a", 2000),
	} {
		p.set(2, 1, "prefix", value, api.ErrValue)
	}
	p.look()
}

// Each text of one or two bytes, with and without C- and M- ahead.
func TestOP2KeysEachByte(t *testing.T) {
	p := begun(t)
	for _, ahead := range []string{"", "C-", "M-", "C-M-", "S-", "M-C-"} {
		for b := range 256 {
			p.call("Set", 2, 0, "prefix", ahead+string([]byte{byte(b)}))
			p.call("Set", 2, 0, "prefix", ahead+string(rune(b)))
			p.get("prefix", 0, 0, 0)
		}
	}
	p.look()
}

func TestOP2Texts(t *testing.T) {
	var every []byte
	for b := range 256 {
		every = append(every, byte(b))
	}
	texts := 0
	for _, r := range sheet {
		if r.kind != "text" {
			continue
		}
		texts++
		p := begun(t)
		for _, value := range []string{
			"", " ", "x", "\x00", "\n", "#{", "#{no such}", "a\nb\r\x1b[31m", "\xff\xfe", "\u4e00", string(every), strings.Repeat(string(every), 4),
			strings.Repeat("x", 1023), strings.Repeat("x", 1024), strings.Repeat("\n", 1024), strings.Repeat("\xff", 1024), strings.Repeat("\u00e9", 512),
		} {
			p.set(r.scope, 1, r.name, value, api.OK).is(r.name, 1, 1, 0, value).look()
		}
		for _, value := range []string{strings.Repeat("x", 1025), strings.Repeat("\u00e9", 512) + "x", strings.Repeat("\u00e9", 1024), strings.Repeat("x", 1<<20)} {
			p.set(r.scope, 1, r.name, value, api.ErrLong)
			p.set(r.scope, 2, r.name, value, api.ErrLong)
		}
		p.look()
	}
	if texts != 6 {
		t.Errorf("%d texts", texts)
	}
}

// What is too long for a text is of every other kind just none of its values.
func TestOP2LongIsOfTextsAlone(t *testing.T) {
	p := begun(t)
	for _, r := range sheet {
		want := api.ErrValue
		if r.kind == "text" {
			want = api.ErrLong
		}
		p.set(r.scope, 0, r.name, strings.Repeat("1", 1025), want)
		p.set(r.scope, 0, r.name, strings.Repeat("on", 1<<16), want)
	}
	p.look()
}

func TestOP2Full(t *testing.T) {
	p := full(t)
	p.look()
	for _, r := range sheet {
		for _, scope := range scopesOf(r) {
			p.set(scope, 0, r.name, good(r), api.ErrFull)
			if scope != api.ScopeServer {
				p.set(scope, 1, r.name, good(r), api.ErrFull)
				p.set(scope, fillers, r.name, bad(r), p.refusal(r))
			}
		}
	}
	p.look()
	for i, s := range p.book.all {
		if i%50 == 0 {
			r, _ := rowOf(s.Name)
			p.set(s.Scope, s.Id, s.Name, r.first, api.OK).set(s.Scope, s.Id, s.Name, bad(r), p.refusal(r))
		}
	}
	p.look()
	if len(p.book.all) != 500 {
		t.Fatalf("%d things are set", len(p.book.all))
	}
}

func (p *pair) refusal(r row) api.Errno {
	if r.kind == "text" {
		return api.ErrLong
	}
	return api.ErrValue
}

// One goes, one comes, and no more.
func TestOP2FullToTheOne(t *testing.T) {
	p := filled(t, 499)
	p.set(1, 0, "escape-time", "0", api.OK).set(1, 0, "buffer-limit", "3", api.ErrFull).set(1, 0, "escape-time", "9", api.OK)
	p.unset(1, 0, "escape-time", api.OK).set(1, 0, "buffer-limit", "3", api.OK).set(1, 0, "escape-time", "9", api.ErrFull).look()
	p.unset(1, 0, "escape-time", api.OK).set(2, 1, "status", "off", api.ErrFull)
	p.drop(3, 1).set(2, 1, "status", "off", api.ErrFull)
	p.drop(4, fillers).set(2, 1, "status", "off", api.OK).set(2, 2, "status", "off", api.OK).set(2, 3, "status", "off", api.ErrFull).look()
}

// The limit is of all things together, and not of one option, one scope or one id.
func TestOP2FullOfOneAndOfMany(t *testing.T) {
	p := begun(t)
	for id := range 500 {
		p.set(2, id, "status", "off", api.OK)
	}
	p.set(2, 500, "status", "off", api.ErrFull).set(3, 1, "synchronize", "on", api.ErrFull).look()
	p = begun(t)
	for id := 1; len(p.book.all) < 500; id++ {
		for _, r := range sheet {
			if r.scope != 1 && len(p.book.all) < 500 {
				p.set(r.scope, id, r.name, good(r), api.OK)
			}
		}
	}
	p.set(2, 1000, "status", "off", api.ErrFull).set(1, 0, "escape-time", "0", api.ErrFull).look()
}

// What differs in the scope, in the id or in the name alone is another thing.
func TestOP2EachThingIsItsOwn(t *testing.T) {
	p := begun(t)
	for _, r := range sheet {
		for _, scope := range scopesOf(r) {
			for _, id := range []int{0, 1, 2, 1 << 32, 1<<32 + 1, 1 << 62} {
				if scope != api.ScopeServer || id == 0 {
					p.set(scope, id, r.name, good(r), api.OK)
				}
			}
		}
	}
	p.look()
	count := len(p.book.all)
	p.set(4, 1, "scroll-keep", "on", api.OK).set(2, 1<<32+1, "status", "on", api.OK).look()
	if len(p.book.all) != count {
		t.Errorf("%d things, and not %d", len(p.book.all), count)
	}
}

func TestOP2TakesThePlace(t *testing.T) {
	p := begun(t)
	for _, value := range []string{"a", "", "a", "b", strings.Repeat("x", 1024), "c"} {
		p.set(2, 1, "status-left", value, api.OK).is("status-left", 1, 0, 0, value).look()
	}
	p.set(2, 1, "status-left", strings.Repeat("x", 1025), api.ErrLong).is("status-left", 1, 0, 0, "c")
	p.set(2, -1, "status-left", "d", api.ErrArg).is("status-left", 1, 0, 0, "c")
	p.set(3, 1, "status-left", "d", api.ErrScope).is("status-left", 1, 0, 0, "c").look()
}

// Which of two refusals comes first, each pair of them by itself.
func TestOP2WhichComesFirst(t *testing.T) {
	long, no := strings.Repeat("x", 1025), "no value"
	p := full(t)
	for _, c := range []struct {
		scope, id   int
		name, value string
		want        api.Errno
	}{
		{9, 0, "nothing", "x", api.ErrOption},
		{2, -1, "nothing", "x", api.ErrOption},
		{2, 0, "nothing", long, api.ErrOption},
		{2, 0, "nothing", "on", api.ErrOption},
		{3, -1, "status", "on", api.ErrScope},
		{3, api.MaxNumber + 1, "status-left", "on", api.ErrScope},
		{1, 1, "status", "on", api.ErrScope},
		{3, 0, "status-left", long, api.ErrScope},
		{3, 0, "status", no, api.ErrScope},
		{3, 0, "status", "on", api.ErrScope},
		{2, -1, "status-left", long, api.ErrArg},
		{2, -1, "status", no, api.ErrArg},
		{2, api.MaxNumber + 1, "status", "on", api.ErrArg},
		{1, 1, "escape-time", no, api.ErrArg},
		{1, 1, "escape-time", "1", api.ErrArg},
		{2, 0, "status-left", long, api.ErrLong},
		{2, 0, "status", no, api.ErrValue},
		{2, 0, "status", long, api.ErrValue},
		{2, 0, "status", "on", api.ErrFull},
		{2, 0, "status-left", "", api.ErrFull},
	} {
		p.set(c.scope, c.id, c.name, c.value, c.want)
	}
	p.look()
}

// Every set of faults, in options that are empty, nearly full and full; what is refused changes nothing.
func TestRule2EachSetOfFaults(t *testing.T) {
	names := []string{"", "nothing", "Status"}
	for _, r := range sheet {
		names = append(names, r.name)
	}
	for _, n := range []int{0, 499, 500} {
		for _, name := range names {
			r, _ := rowOf(name)
			p := filled(t, n)
			for _, verb := range calls {
				for scope := range 6 {
					for _, id := range []int{-1, 0, 1, fillers, api.MaxNumber, api.MaxNumber + 1} {
						for _, value := range []string{"", good(r), bad(r), strings.Repeat("x", 1030)} {
							was := p.book.at(scope, id, name)
							if p.call(verb, scope, id, name, value) != api.OK {
								continue
							}
							if p.unset(scope, id, name, api.OK); was >= 0 {
								p.set(scope, id, name, good(r), api.OK)
							}
						}
					}
				}
			}
			p.look()
		}
	}
}
