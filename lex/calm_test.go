package lex

import (
	"strings"
	"testing"

	"mullion/api"
)

// Words and semicolons with blanks of all kinds around them.
func TestX5BlanksChangeNothing(t *testing.T) {
	m := newMaker(7)
	for range 10000 {
		c := m.commands()
		var tight, loose string
		for i, words := range c {
			if i > 0 {
				tight, loose = tight+";", loose+";"
			}
			for j, w := range words {
				spelt := m.spell(w)
				if j > 0 {
					tight += " "
				}
				tight += spelt
				loose += m.blanks(1) + spelt + m.blanks(1)
			}
		}
		wantCommands(t, tight, c...)
		wantCommands(t, loose, c...)
		wantCommands(t, m.blanks(1)+tight+m.blanks(1), c...)
	}
}

// Blanks and remarks around lines of any bytes that are read without an error.
func TestX5AroundLinesOfAnyBytes(t *testing.T) {
	m := newMaker(8)
	for n := 0; n < 5000; {
		line := m.bytes(15)
		want := read(line)
		if want.err != api.OK {
			continue
		}
		n++
		for _, other := range []string{m.blanks(1) + line, line + m.blanks(1), line + " #" + m.remark(), line + "\t# a ; 'b", line + "; #" + m.remark(), line + "\t#"} {
			if got := read(other); !same(got, want) {
				t.Fatalf("%q is read as %v, but %q as %v", other, got, line, want)
			}
		}
	}
}

// A blank ahead of a fault moves its place and nothing else.
func TestX5BlanksAheadOfAFault(t *testing.T) {
	m := newMaker(9)
	for n := 0; n < 5000; {
		line := m.bytes(15)
		want := read(line)
		if want.err != api.ErrQuote {
			continue
		}
		n++
		ahead := m.blanks(1)
		wantError(t, ahead+line, len(ahead)+want.place, api.ErrQuote)
	}
}

func TestX5Remarks(t *testing.T) {
	for _, c := range [][2]string{
		{"a b ; c", "a b ; c # d ; e"}, {"a b ; c", "a b ; c\t#"}, {"a b;c", "a b;c;#'"}, {"", "#"}, {"", " # a"}, {"'#' a", `'#' a #\`}, {"#{a} b", "#{a} b # {c}"},
	} {
		if want, got := read(c[0]), read(c[1]); !same(got, want) {
			t.Errorf("%q is read as %v, but %q as %v", c[1], got, c[0], want)
		}
	}
}

func TestX5TwoParts(t *testing.T) {
	wantCommands(t, "a b"+";"+"c", of("a", "b"), of("c"))
	wantCommands(t, ""+";"+"c", of("c"))
	wantCommands(t, "a"+";"+"", of("a"))
	wantCommands(t, "a #"+";"+"c", of("a"))
	wantCommands(t, "a"+";"+"c # d", of("a"), of("c"))
	wantCommands(t, `a\;`+";"+"#{c", of("a;"), of("#{c"))
}

func TestX5LongRunOfTwoParts(t *testing.T) {
	m := newMaker(10)
	next := func() string {
		if m.chance(50) {
			return m.line(m.commands())
		}
		return m.bytes(12)
	}
	joined := 0
	for range 40000 {
		one, two := next(), next()
		_, remarked := expect(one)
		a, b := read(one), read(two)
		if remarked || a.err != api.OK || b.err != api.OK {
			continue
		}
		joined++
		wantCommands(t, one+";"+two, append(a.commands, b.commands...)...)
	}
	if joined < 5000 {
		t.Errorf("only %d pairs of lines are read without an error", joined)
	}
}

// The limits are on the whole, not on its parts.
func TestX5LimitsOfTheWhole(t *testing.T) {
	half := strings.Repeat("a ", api.MaxWords/2)
	wantError(t, half+";"+half+" b", 0, api.ErrWords)
	few := strings.Repeat("a;", api.MaxCommands/2)
	wantError(t, few+";"+few+"b", 0, api.ErrWords)
	long := strings.Repeat("a", api.MaxLine/2)
	wantError(t, long+";"+long, 0, api.ErrLong)
	wantCommands(t, long+";"+long[1:], of(long), of(long[1:]))
}
