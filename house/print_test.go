package house

import (
	"fmt"
	"math"
	"slices"
	"strings"
	"testing"

	"mullion/api"
)

// short is the beginning of what entries are.
func short(l []api.Entry) string { return fmt.Sprintf("%.200q", fmt.Sprint(l)) }

// wantPrinted asks for a text, which must be the tests' own, and which Parse must read as what was printed.
func wantPrinted(t *testing.T, c api.Config, l []api.Entry, want string) {
	t.Helper()
	if own := printed(c, l...); own != want {
		t.Fatalf("the tests themselves print %.200q, and not %.200q", own, want)
	}
	if got, err := Print(c, l); got != want || err != api.OK {
		t.Errorf("Print(%v, %s): %.200q, error %d, and not %.200q", c, short(l), got, err, want)
	}
	if back := parse(want); back.String() != (parsed{c: c, l: l}).String() {
		t.Errorf("Parse(%.200q): %.400s", want, back)
	}
}

func wantRefused(t *testing.T, c api.Config, l []api.Entry, want api.Errno) {
	t.Helper()
	if got, err := Print(c, l); got != "" || err != want {
		t.Errorf("Print(%v, %d entries %s): %.200q, error %d, and not %d", c, len(l), short(l), got, err, want)
	}
}

func TestP182EachKind(t *testing.T) {
	wantPrinted(t, config, nil, begin)
	wantPrinted(t, api.Config{}, []api.Entry{}, "server 0 0 0\n")
	for line, e := range map[string]api.Entry{
		"attach 1 1000": {Kind: api.InAttach, Client: 1, N: 1000}, "attach 0 0": {Kind: api.InAttach}, "detach 2": {Kind: api.InDetach, Client: 2}, "input 3 a b": {Kind: api.InInput, Client: 3, Text: "a b"},
		"input 3 ": {Kind: api.InInput, Client: 3}, `input 1 \012\134\000 ` + "\xff": {Kind: api.InInput, Client: 1, Text: "\n\\\x00 \xff"}, "drain 4 5": {Kind: api.InDrain, Client: 4, N: 5},
		"output 6 #": {Kind: api.InOutput, Pane: 6, Text: "#"}, "output 0 ": {Kind: api.InOutput}, "done 7": {Kind: api.InDone, Pane: 7}, "tick": {Kind: api.InTick},
	} {
		wantPrinted(t, config, []api.Entry{e}, begin+line+"\n")
		wantPrinted(t, config, []api.Entry{{Kind: api.InTick}, e, e}, begin+"tick\n"+line+"\n"+line+"\n")
	}
	wantPrinted(t, config, []api.Entry{{Kind: api.InInput, Client: 1, Text: "a\n"}, {Kind: api.InTick}}, "server 80 24 100\ninput 1 a\\012\ntick\n")
}

// numbersOf are the numbers of an entry by the letters of the table.
func numbersOf(e *api.Entry) map[string]*int {
	return map[string]*int{"C": &e.Client, "P": &e.Pane, "N": &e.N}
}

// Each number that is written is from 0 to MaxNumber.
func TestP182Numbers(t *testing.T) {
	good := []int{0, 1, 9, 10, 1 << 31, api.MaxNumber - 1, api.MaxNumber}
	bad := []int{-1, -2, math.MinInt, api.MaxNumber + 1, api.MaxNumber + 2, math.MaxInt}
	for _, r := range table[1:] {
		for _, name := range strings.Split(strings.TrimSuffix(r.names, "T"), "") {
			for _, n := range good {
				e := api.Entry{Kind: r.kind}
				*numbersOf(&e)[name] = n
				wantPrinted(t, config, []api.Entry{e}, printed(config, e))
			}
			for _, n := range bad {
				e := api.Entry{Kind: r.kind}
				*numbersOf(&e)[name] = n
				wantRefused(t, config, []api.Entry{e}, api.ErrScript)
				wantRefused(t, config, []api.Entry{{Kind: api.InTick}, e, {Kind: api.InTick}}, api.ErrScript)
			}
		}
	}
	for _, n := range good {
		for _, c := range []api.Config{{W: n, H: 1, Tail: 2}, {W: 1, H: n, Tail: 2}, {W: 1, H: 2, Tail: n}} {
			wantPrinted(t, c, nil, printed(c))
		}
	}
	for _, n := range bad {
		for _, c := range []api.Config{{W: n, H: 1, Tail: 2}, {W: 1, H: n, Tail: 2}, {W: 1, H: 2, Tail: n}} {
			wantRefused(t, c, nil, api.ErrScript)
			wantRefused(t, c, []api.Entry{{Kind: api.InTick}}, api.ErrScript)
		}
	}
}

func TestP182KindsThatAreNone(t *testing.T) {
	for _, kind := range []int{api.InNothing, api.InOpen, api.InKeys, api.InSee, api.InShut, -1, -7, 12, 100, math.MaxInt, math.MinInt} {
		wantRefused(t, config, []api.Entry{{Kind: kind}}, api.ErrScript)
		wantRefused(t, config, []api.Entry{{Kind: kind, Client: 1}}, api.ErrScript)
		wantRefused(t, config, []api.Entry{{Kind: api.InTick}, {Kind: kind, Client: 1, Pane: 80, N: 24, Text: "a"}}, api.ErrScript)
	}
}

// A field that the kind does not name must be zero, whatever it would be.
func TestP182FieldsThatAreNotNamed(t *testing.T) {
	met := 0
	for _, r := range table[1:] {
		for name := range numbersOf(&api.Entry{}) {
			for _, n := range []int{1, -1, api.MaxNumber, math.MinInt} {
				e := api.Entry{Kind: r.kind}
				*numbersOf(&e)[name] = n
				if !strings.Contains(r.names, name) {
					wantRefused(t, config, []api.Entry{e}, api.ErrScript)
					wantRefused(t, config, []api.Entry{{Kind: api.InTick}, e}, api.ErrScript)
					met++
				}
			}
		}
		for _, text := range []string{"x", "\n", "\x00"} {
			if !strings.Contains(r.names, "T") {
				wantRefused(t, config, []api.Entry{{Kind: r.kind, Text: text}}, api.ErrScript)
				met++
			}
		}
	}
	if want := 4*(1+2+2+1+2+2+3) + 3*5; met != want {
		t.Errorf("%d such fields, and not %d", met, want)
	}
}

func TestP182TooManyEntries(t *testing.T) {
	l := slices.Repeat([]api.Entry{{Kind: api.InTick}}, api.MaxEntries)
	wantPrinted(t, config, l, begin+strings.Repeat("tick\n", api.MaxEntries))
	wantRefused(t, config, append(l, api.Entry{Kind: api.InTick}), api.ErrFull)
	wantRefused(t, config, make([]api.Entry, 3*api.MaxEntries), api.ErrFull)
}

// The text may have MaxScript bytes, as they are escaped and with all line ends.
func TestP182TooLong(t *testing.T) {
	room := api.MaxScript - len(begin+"output 1 \n")
	for _, letter := range []string{"x", "\n", `\`} {
		size := len(escaped(letter))
		text := strings.Repeat(letter, room/size) + strings.Repeat("y", room%size)
		l := []api.Entry{{Kind: api.InOutput, Pane: 1, Text: text}}
		if got, err := Print(config, l); len(got) != api.MaxScript || err != api.OK || got != printed(config, l...) {
			t.Errorf("%q: a text of %d bytes, error %d", letter, len(got), err)
		}
		l[0].Text += "x"
		wantRefused(t, config, l, api.ErrLong)
		l[0].Text = text[4/size:] // 4 bytes less, and 5 more
		wantRefused(t, config, append(l, api.Entry{Kind: api.InTick}), api.ErrLong)
	}
	short := strings.Repeat("x", 400)
	l := slices.Repeat([]api.Entry{{Kind: api.InInput, Client: 1, Text: short}}, api.MaxEntries)
	wantRefused(t, config, l, api.ErrLong)
	wantRefused(t, config, []api.Entry{{Kind: api.InInput, Text: strings.Repeat("x", api.MaxScript+1)}}, api.ErrLong)
	wantRefused(t, config, []api.Entry{{Kind: api.InInput, Text: strings.Repeat("x", 20*api.MaxScript)}}, api.ErrLong)
}

// ErrFull comes ahead of ErrScript, and that ahead of ErrLong, wherever the entries stand.
func TestP182WhichErrorFirst(t *testing.T) {
	tick, wrong := api.Entry{Kind: api.InTick}, api.Entry{Kind: api.InTick, N: 1}
	long := api.Entry{Kind: api.InOutput, Pane: 1, Text: strings.Repeat("x", api.MaxScript)}
	below := api.Entry{Kind: api.InDone, Pane: -1}
	many := slices.Repeat([]api.Entry{tick}, api.MaxEntries+1)
	for _, l := range [][]api.Entry{append([]api.Entry{wrong}, many...), append([]api.Entry{long}, many...), append(slices.Clone(many), wrong, long), append([]api.Entry{below, long}, many...)} {
		wantRefused(t, config, l, api.ErrFull)
		wantRefused(t, api.Config{W: -1}, l, api.ErrFull)
	}
	for _, other := range []api.Entry{wrong, below, {}} {
		wantRefused(t, config, []api.Entry{other, long}, api.ErrScript)
		wantRefused(t, config, []api.Entry{long, other}, api.ErrScript)
		wantRefused(t, config, []api.Entry{long, tick, other, tick}, api.ErrScript)
	}
	wantRefused(t, api.Config{Tail: -1}, []api.Entry{long}, api.ErrScript)
	wantRefused(t, config, []api.Entry{long, tick}, api.ErrLong)
}
