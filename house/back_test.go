package house

import (
	"slices"
	"strings"
	"testing"

	"mullion/api"
)

// Parse of what Print answers gives what was printed.
func TestP183PrintAndParse(t *testing.T) {
	a := newAuthor(3)
	for range times(20000) {
		c, l := a.config(), a.entries()
		text, err := Print(c, l)
		if err != api.OK || text != printed(c, l...) {
			t.Fatalf("Print(%v, %v): %q, error %d", c, l, text, err)
		}
		if got := parse(text); got.String() != (parsed{c: c, l: l}).String() || !slices.Equal(got.l, l) {
			t.Fatalf("Parse(%q):\n%s\nand not\n%v, %v", text, got, c, l)
		}
	}
}

// Entries of all kinds and numbers, most of which no script says: what is printed is read as what it was.
func TestP183AnyEntries(t *testing.T) {
	a := newAuthor(4)
	count := map[api.Errno]int{}
	for range times(20000) {
		l := a.entries()
		for i := range l {
			for _, n := range []*int{&l[i].Kind, &l[i].Client, &l[i].Pane, &l[i].N} {
				if a.Intn(80) == 0 {
					*n = []int{-1, 0, 1, 8, api.MaxNumber, api.MaxNumber + 1}[a.Intn(6)]
				}
			}
			if a.Intn(80) == 0 {
				l[i].Text = a.text()
			}
		}
		text, err := Print(config, l)
		count[err]++
		if err == api.OK && parse(text).String() != (parsed{c: config, l: l}).String() {
			t.Fatalf("Print(%v): %q, which is read as %s", l, text, parse(text))
		}
		if said := parse(printed(config, l...)); (err == api.OK) != (said.err == api.OK && slices.Equal(said.l, l)) {
			t.Fatalf("Print(%v): error %d; its text would be read as %s", l, err, said)
		}
	}
	if least := times(2000); count[api.OK] < least || count[api.ErrScript] < least || len(count) != 2 {
		t.Errorf("met: %v", count)
	}
}

// Print of what Parse answers is OK, and is read as the same.
func TestP183ParseAndPrint(t *testing.T) {
	a := newAuthor(5)
	met := 0
	for range times(20000) {
		text := a.loose(a.config(), a.entries())
		if a.Intn(2) == 0 {
			text = a.spoilt(text)
		}
		first := parse(text)
		if first.err != api.OK {
			continue
		}
		met++
		again, err := Print(first.c, first.l)
		if err != api.OK || len(again) > len(text)+1 {
			t.Fatalf("Parse(%q): %s; Print of it: %q, error %d", text, first, again, err)
		}
		if second := parse(again); second.String() != first.String() {
			t.Fatalf("%q is read as\n%s\nand its print %q as\n%s", text, first, again, second)
		}
	}
	if met < times(5000) {
		t.Errorf("only %d scripts were read", met)
	}
}

// A text of MaxScript bytes without its last end has a print that is too long.
func TestP183TooLongThen(t *testing.T) {
	head := begin + "output 1 "
	text := head + strings.Repeat("x", api.MaxScript-len(head))
	c, l, _, err := Parse(text)
	if err != api.OK {
		t.Fatalf("error %d", err)
	}
	if got, err := Print(c, l); got != "" || err != api.ErrLong {
		t.Errorf("%d bytes, error %d", len(got), err)
	}
	text = text[:api.MaxScript-1]
	c, l, _, _ = Parse(text)
	if got, err := Print(c, l); got != text+"\n" || err != api.OK {
		t.Errorf("%d bytes, error %d", len(got), err)
	}
}
