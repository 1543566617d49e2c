package scene

import (
	"unicode/utf8"

	"mullion/api"
	"mullion/vt"
)

// unread is told for what is no letter.
const unread = '?'

func blank(a api.Attr) api.Glyph { return api.Glyph{Text: " ", Width: 1, Attr: a} }

// dot is what lies beside the window.
func dot() api.Glyph {
	return api.Glyph{Text: "\u00b7", Width: 1, Attr: api.Attr{Marks: api.MarkDim}}
}

// field is a sheet that holds one glyph everywhere.
type field struct {
	box
	of api.Glyph
}

func (f field) glyph(x, y int) api.Glyph { return f.of }

// picture is a sheet that shows what a pane does.
type picture api.Picture

func (p picture) size() (int, int) { return p.W, p.H }

func (p picture) glyph(x, y int) api.Glyph { return p.Places[p.W*y+x] }

// strip is a sheet of one row.
type strip []api.Glyph

func (s strip) size() (int, int) { return len(s), 1 }

func (s strip) glyph(x, y int) api.Glyph { return s[x] }

// Status makes the status row.
func Status(text string, width int) ([]api.Glyph, api.Errno) {
	if !isSide(width) {
		return nil, api.ErrSide
	}
	a := api.Attr{Fore: 1, Back: 3}
	row := make([]api.Glyph, 0, width)
	for text != "" {
		letter, size := readLetter(text)
		text = text[size:]
		g := api.Glyph{Text: string(letter), Width: vt.Width(letter), Attr: a}
		if len(row)+g.Width > width {
			break
		}
		if g.Width > 0 {
			row = append(row, g)
		}
		if g.Width == 2 {
			row = append(row, api.Glyph{Attr: a})
		}
	}
	for len(row) < width {
		row = append(row, blank(a))
	}
	return row, api.OK
}

// readLetter tells the letter with which a text begins, and how many bytes it
// has. For a byte that is part of none the library answers the letter FFFD,
// but with the size 1.
func readLetter(text string) (rune, int) {
	letter, size := utf8.DecodeRuneInString(text)
	if letter == utf8.RuneError && size == 1 || vt.Width(letter) < 0 {
		return unread, size
	}
	return letter, size
}
