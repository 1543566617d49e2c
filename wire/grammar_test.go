package wire

import (
	"slices"
	"strings"
	"testing"
)

// A lang is a regular language, none of them empty. From places of a text it leads to the places that
// its words lead to; short: a word of it may end behind the end of the text, being longer than what is left.
type lang func(text string, from []int) (to []int, short bool)

func joined(a, b []int) []int {
	c := slices.Concat(a, b)
	slices.Sort(c)
	return slices.Compact(c)
}

func oneOf(fits func(b byte) bool) lang {
	return func(text string, from []int) ([]int, bool) {
		var to []int
		short := false
		for _, p := range from {
			if p == len(text) {
				short = true
			} else if fits(text[p]) {
				to = append(to, p+1)
			}
		}
		return to, short
	}
}

func anyOf(bytes string) lang {
	return oneOf(func(b byte) bool { return strings.IndexByte(bytes, b) >= 0 })
}

func text(words string) lang {
	var l []lang
	for i := range len(words) {
		l = append(l, anyOf(words[i:i+1]))
	}
	return seq(l...)
}

func seq(parts ...lang) lang {
	return func(text string, from []int) ([]int, bool) {
		short := false
		for _, g := range parts {
			if len(from) == 0 {
				break
			}
			to, s := g(text, from)
			from, short = to, short || s
		}
		return from, short
	}
}

func alt(choices ...lang) lang {
	return func(text string, from []int) ([]int, bool) {
		var to []int
		short := false
		for _, g := range choices {
			t, s := g(text, from)
			to, short = joined(to, t), short || s
		}
		return to, short
	}
}

// times is g from least to most times; most -1: as often as may be.
func times(g lang, least, most int) lang {
	return func(text string, from []int) ([]int, bool) {
		var to []int
		short := false
		for n := 0; len(from) > 0; n++ {
			if n >= least {
				to = joined(to, from)
			}
			if n == most {
				break
			}
			next, s := g(text, from)
			from, short = next, short || s
		}
		return to, short
	}
}

func maybe(g lang) lang { return times(g, 0, 1) }

const digits = "0123456789"

// positive is the numbers from 1 to most, without needless zeros.
func positive(most string) lang {
	n := len(most)
	choices := []lang{text(most)}
	if n > 1 {
		choices = append(choices, seq(anyOf(digits[1:]), times(anyOf(digits), 0, n-2)))
	}
	for i := range n {
		low := byte('0')
		if i == 0 {
			low = '1'
		}
		if most[i] > low {
			choices = append(choices, seq(text(most[:i]), oneOf(func(b byte) bool { return b >= low && b < most[i] }), times(anyOf(digits), n-i-1, n-i-1)))
		}
	}
	return alt(choices...)
}

func names(inner string) lang {
	ok := func(bars string) lang {
		return oneOf(func(b byte) bool { return b >= 32 && b <= 126 && strings.IndexByte(bars, b) < 0 })
	}
	head := ok(".: !$%+-=@^{")
	return alt(head, seq(head, times(ok(inner), 0, 30), ok(".: ")))
}

func escapes(least, most int) lang {
	return times(alt(oneOf(func(b byte) bool { return b >= 32 && b != '\\' }), code()), least, most)
}

func code() lang {
	return alt(seq(text("\\0"), anyOf("0123"), anyOf("01234567")), text("\\134"))
}

func bodies() lang {
	first := alt(oneOf(func(b byte) bool { return b >= 32 && b != '\\' && b != '%' }), code(), text("\\045"))
	return maybe(seq(first, escapes(0, -1)))
}

// langOf is the language of a thing of a row.
func langOf(what string) lang {
	const most = "4611686018427387904"
	switch what {
	case "TICK", "NUMBER", "OFFSET":
		return alt(text("0"), positive(most))
	case "FLAG":
		return anyOf("01")
	case "INDEX":
		return alt(text("0"), positive("9999"))
	case "SESSION":
		return seq(text("$"), positive(most))
	case "WINDOW":
		return seq(text("@"), positive(most))
	case "PANE":
		return seq(text("%"), positive(most))
	case "NAME":
		return names(".:")
	case "WORD":
		return names(".: ")
	case "LAYOUT", "VISIBLE":
		return times(anyOf("0123456789abcdefx,{}[]"), 1, 2048)
	case "FLAGS":
		return anyOf("Z-")
	case "DATA":
		return escapes(1, 256)
	case "VALUE", "TEXT":
		return escapes(0, 1024)
	case "REASON":
		return escapes(1, 1024)
	case "BODY":
		return bodies()
	}
	return text(what)
}

// rowLang is the language of a row's lines.
func rowLang(line string) lang {
	if line == "%exit REASON" {
		return seq(text("%exit"), maybe(seq(text(" "), langOf("REASON"))))
	}
	var l []lang
	for i, w := range strings.Split(line, " ") {
		if i > 0 {
			l = append(l, text(" "))
		}
		l = append(l, langOf(w))
	}
	return seq(l...)
}

// classLang is the language of a class's lines, each with its end.
func classLang(class int) lang {
	var l []lang
	for _, r := range rows {
		if r.class == class {
			l = append(l, rowLang(r.line))
		}
	}
	return seq(alt(l...), text("\n"))
}

// wordLang is ( Told | Begin Body* End )* Exit?.
func wordLang() lang {
	block := seq(classLang(ClassBegin), times(classLang(ClassBody), 0, -1), classLang(ClassEnd))
	return seq(times(alt(classLang(ClassTold), block), 0, -1), maybe(classLang(ClassExit)))
}

// grammar answers what Word and Class ought to.
type grammar struct {
	word    lang
	classes map[int]lang
}

func newGrammar() grammar {
	g := grammar{word: wordLang(), classes: map[int]lang{}}
	for class := ClassTold; class <= ClassExit; class++ {
		g.classes[class] = classLang(class)
	}
	return g
}

func (g grammar) Word(text string) (bool, bool) {
	to, short := g.word(text, []int{0})
	whole := slices.Contains(to, len(text))
	return short || whole, whole
}

func (g grammar) Class(line string) int {
	for class := ClassTold; class <= ClassExit; class++ {
		to, _ := g.classes[class](line+"\n", []int{0})
		if slices.Contains(to, len(line)+1) && !strings.Contains(line, "\n") {
			return class
		}
	}
	return ClassNone
}

// The oracle itself is held against lines and texts that were judged by hand.
func TestGrammarOfTheTests(t *testing.T) {
	g := newGrammar()
	for line, want := range map[string]int{
		"": ClassBody, "x": ClassBody, "%": ClassNone, "%begin 0 0 0": ClassBegin, "%begin 0 0 2": ClassNone, "%begin 00 0 0": ClassNone,
		"%begin 4611686018427387904 4611686018427387905 0": ClassNone, "%begin 4611686018427387904 4599999999999999999 0": ClassBegin,
		"%end 1 10 1": ClassEnd, "%error 1 10 1": ClassEnd, "%exit": ClassExit, "%exit ": ClassNone, "%exit  ": ClassExit, "%message ": ClassTold,
		"%window-link $1 9999 @1": ClassTold, "%window-link $1 10000 @1": ClassNone, "%window-link $0 1 @1": ClassNone,
		`\045`: ClassBody, `x\045`: ClassNone, `\134`: ClassBody, `\040`: ClassNone, "%window-add @1 a b": ClassTold, "%window-add @1 a ": ClassNone,
	} {
		if got := g.Class(line); got != want {
			t.Errorf("%q: %d, want %d", line, got, want)
		}
	}
}
