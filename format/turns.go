package format

import (
	"strconv"
	"strings"

	"mullion/api"
)

// A turn makes one text of another.
type turn func(text string) string

// A turner makes a turn of what stands behind its letter, if that is of its form.
type turner func(behind string) (turn, bool)

func turners() map[byte]turner {
	return map[byte]turner{
		'=': numbered(first, last),
		'p': numbered(padBehind, padAhead),
		'b': bare(base),
		'd': bare(folder),
		'n': bare(func(text string) string { return strconv.Itoa(len(text)) }),
		'u': bare(letters(isSmall)),
		'w': bare(letters(isGreat)),
		's': exchange,
	}
}

// turnsOf reads a head that is one or more turns.
func (x *expander) turnsOf(name string) ([]turn, bool) {
	var turns []turn
	for _, one := range strings.Split(name, ";") {
		if one == "" {
			return nil, false
		}
		turnOf, ok := x.turns[one[0]]
		if !ok {
			return nil, false
		}
		t, ok := turnOf(one[1:])
		if !ok {
			return nil, false
		}
		turns = append(turns, t)
	}
	return turns, true
}

func turned(text string, turns []turn) (string, error) {
	for _, t := range turns {
		text = t(text)
		if len(text) > api.MaxText {
			return "", fault{api.ErrLong}
		}
	}
	return text, nil
}

// bare makes the turner of a turn that is its letter alone.
func bare(t turn) turner {
	return func(behind string) (turn, bool) { return t, behind == "" }
}

// numbered makes the turner of a turn with a number, which does another thing
// with a - ahead of it.
func numbered(plain, minus func(n int) turn) turner {
	return func(behind string) (turn, bool) {
		turnBy := plain
		if digits, ok := strings.CutPrefix(behind, "-"); ok {
			turnBy, behind = minus, digits
		}
		n, ok := fourDigits(behind)
		if !ok {
			return nil, false
		}
		return turnBy(n), true
	}
}

// fourDigits reads one to four decimal digits.
func fourDigits(text string) (int, bool) {
	n := 0
	for i := 0; i < len(text); i++ {
		if !isDigit(text[i]) || i == 4 {
			return 0, false
		}
		n = n*10 + int(text[i]-'0')
	}
	return n, text != ""
}

func first(n int) turn {
	return func(text string) string { return text[:min(n, len(text))] }
}

func last(n int) turn {
	return func(text string) string { return text[max(0, len(text)-n):] }
}

func padBehind(n int) turn {
	return func(text string) string { return text + blanks(n-len(text)) }
}

func padAhead(n int) turn {
	return func(text string) string { return blanks(n-len(text)) + text }
}

func blanks(n int) string { return strings.Repeat(" ", max(0, n)) }

func base(text string) string { return text[strings.LastIndexByte(text, '/')+1:] }

func folder(text string) string {
	switch slash := strings.LastIndexByte(text, '/'); slash {
	case -1:
		return "."
	case 0:
		return "/"
	default:
		return text[:slash]
	}
}

// letters makes the turn that exchanges those letters for the others of their
// names: small and great ones differ in one bit.
func letters(is func(b byte) bool) turn {
	return func(text string) string {
		if len(text) > api.MaxText {
			return text // it stays as long, and is refused for that
		}
		turned := []byte(text)
		for i, b := range turned {
			if is(b) {
				turned[i] = b ^ 'a' ^ 'A'
			}
		}
		return string(turned)
	}
}

// exchange reads what stands behind the s of s/X/Y/. No : and no ; comes here,
// since a head ends at the one and turns are cut at the other.
func exchange(behind string) (turn, bool) {
	parts := strings.Split(behind, "/")
	if len(parts) != 4 || parts[0] != "" || parts[1] == "" || parts[3] != "" {
		return nil, false
	}
	return func(text string) string { return exchanged(text, parts[1], parts[2]) }, true
}

// exchanged stops as soon as it has more bytes than a text may have: all of
// them could be more than there is memory for.
func exchanged(text, from, to string) string {
	var out strings.Builder
	for out.Len() <= api.MaxText {
		at := strings.Index(text, from)
		if at < 0 {
			out.WriteString(text)
			break
		}
		out.WriteString(text[:at])
		out.WriteString(to)
		text = text[at+len(from):]
	}
	return out.String()
}
