package paint

import (
	"unicode/utf8"

	"mullion/api"
	"mullion/vt"
)

// What colours and marks there are: numbers from 0 up to these.
const (
	lastColour = firstOfLights + 1<<24 - 1
	lastMarks  = api.MarkStrike<<1 - 1
)

// The bytes that a title has none of: those below the one, and the other.
const (
	firstOfTitle = 0x20
	del          = 0x7f
)

func mayBe(p api.Picture) bool {
	if !isSide(p.W) || !isSide(p.H) || len(p.Places) != p.W*p.H {
		return false
	}
	if !isWithin(p.X, p.W-1) || !isWithin(p.Y, p.H-1) || !isTitle(p.Title) {
		return false
	}
	for y := range p.H {
		if !isRow(rowOf(p, y)) {
			return false
		}
	}
	return true
}

func isSide(n int) bool { return 1 <= n && n <= api.MaxSide }

func isWithin(n int, last int) bool { return 0 <= n && n <= last }

func isTitle(text string) bool {
	if len(text) > api.MaxTitle {
		return false
	}
	for i := range len(text) {
		if text[i] < firstOfTitle || text[i] == del {
			return false
		}
	}
	return true
}

func isRow(row []api.Glyph) bool {
	for x := range row {
		if !isPlace(row, x) {
			return false
		}
	}
	return true
}

// isPlace tells whether a row may hold what it does at a column, beside what
// it holds next to that.
func isPlace(row []api.Glyph, x int) bool {
	g := row[x]
	if !isAttr(g.Attr) {
		return false
	}
	switch g.Width {
	case 0:
		return g.Text == "" && x > 0 && row[x-1].Width == 2 && row[x-1].Attr == g.Attr
	case 1:
		return isLetter(g.Text, 1)
	case 2:
		return isLetter(g.Text, 2) && x+1 < len(row) && row[x+1].Width == 0
	}
	return false
}

func isAttr(a api.Attr) bool {
	return isWithin(a.Fore, lastColour) && isWithin(a.Back, lastColour) && isWithin(a.Marks, lastMarks)
}

// isLetter tells whether a text is one letter of that width. For bytes that
// are none the library answers the letter FFFD too, but with the size 1.
func isLetter(text string, width int) bool {
	letter, size := utf8.DecodeRuneInString(text)
	if size != len(text) || letter == utf8.RuneError && size <= 1 {
		return false
	}
	return vt.Width(letter) == width
}
