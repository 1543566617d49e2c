package copying

import (
	"unicode/utf8"

	"mullion/vt"
)

const (
	blank    = ' '
	unknown  = '?' // stands for what is no letter
	noLetter = 0   // no letter of a text is this one
)

// place lies ahead of the letter of that number, or at the line's end.
type place struct{ line, letters int }

func (p place) isAheadOf(q place) bool {
	return p.line < q.line || p.line == q.line && p.letters < q.letters
}

// text is lines of letters, at least one.
type text [][]rune

func newText(lines []string) text {
	if len(lines) == 0 {
		return text{nil}
	}
	t := make(text, len(lines))
	for i, line := range lines {
		t[i] = lettersOf(line)
	}
	return t
}

// lettersOf is a text as its letters. That a byte is part of no code point is
// told by the size alone: the letter that then comes may stand there as well.
func lettersOf(line string) []rune {
	letters := make([]rune, 0, utf8.RuneCountInString(line))
	for len(line) > 0 {
		letter, size := utf8.DecodeRuneInString(line)
		line = line[size:]
		if letter == utf8.RuneError && size == 1 || vt.Width(letter) < 0 {
			letter = unknown
		}
		if vt.Width(letter) > 0 {
			letters = append(letters, letter)
		}
	}
	return letters
}

// last is the number of the last line.
func (t text) last() int { return len(t) - 1 }

// begin is the beginning of a line.
func (t text) begin(line int) place { return place{line, 0} }

// end is the end of a line.
func (t text) end(line int) place { return place{line, len(t[line])} }

// letter is the letter of that number in a line, or noLetter.
func (t text) letter(line int, number int) rune {
	if number < 0 || number >= len(t[line]) {
		return noLetter
	}
	return t[line][number]
}

// letters are the ones ahead of a place and behind it.
func (t text) letters(p place) (rune, rune) {
	return t.letter(p.line, p.letters-1), t.letter(p.line, p.letters)
}

// beginsWord tells whether a word begins at a place.
func (t text) beginsWord(p place) bool {
	ahead, behind := t.letters(p)
	return !isOfWord(ahead) && isOfWord(behind)
}

// endsWord tells whether a word ends at a place.
func (t text) endsWord(p place) bool {
	ahead, behind := t.letters(p)
	return isOfWord(ahead) && !isOfWord(behind)
}

// isBare tells whether a place's line has no letters.
func (t text) isBare(p place) bool { return len(t[p.line]) == 0 }

// isOfWord tells whether a letter is a word letter.
func isOfWord(letter rune) bool {
	switch {
	case 'A' <= letter && letter <= 'Z', 'a' <= letter && letter <= 'z', '0' <= letter && letter <= '9':
		return true
	}
	return letter == '_' || letter >= utf8.RuneSelf
}
