package paint

import (
	"slices"
	"strings"

	"mullion/api"
	"mullion/vt"
)

// goodByText tells whether a picture may be, from the chapter's list alone: a
// row is read from the left on, letter by letter.
func goodByText(p api.Picture) bool {
	if p.W < 1 || p.W > 1000 || p.H < 1 || p.H > 1000 || len(p.Places) != p.W*p.H {
		return false
	}
	if p.X < 0 || p.X > p.W-1 || p.Y < 0 || p.Y > p.H-1 {
		return false
	}
	for row := range slices.Chunk(p.Places, p.W) {
		if !goodRow(row) {
			return false
		}
	}
	return goodTitle(p.Title)
}

func goodRow(row []api.Glyph) bool {
	for len(row) > 0 {
		switch g := row[0]; {
		case !goodAttr(g.Attr):
			return false
		case g.Width == 1 && letterWidth(g.Text) == 1:
			row = row[1:]
		case g.Width == 2 && letterWidth(g.Text) == 2 && len(row) > 1 && row[1] == api.Glyph{Text: "", Width: 0, Attr: g.Attr}:
			row = row[2:]
		default:
			return false
		}
	}
	return true
}

// letterWidth is the width of a text that is one letter, else -1.
func letterWidth(text string) int {
	letters := []rune(text)
	if len(letters) != 1 || string(letters) != text {
		return -1
	}
	return vt.Width(letters[0])
}

func goodAttr(a api.Attr) bool {
	colour := func(n int) bool { return n >= 0 && n <= 256 || n >= 257 && n <= 257+16777215 }
	return colour(a.Fore) && colour(a.Back) && a.Marks >= 0 && a.Marks <= 255
}

func goodTitle(title string) bool {
	bad := "\x7f"
	for b := range 32 {
		bad += string(rune(b))
	}
	for i := range len(title) {
		if strings.IndexByte(bad, title[i]) >= 0 {
			return false
		}
	}
	return len(title) <= 128
}

// samePicture holds two pictures against each other field by field.
func samePicture(a, b api.Picture) bool {
	if a.W != b.W || a.H != b.H || a.X != b.X || a.Y != b.Y || a.Hidden != b.Hidden || a.Title != b.Title || len(a.Places) != len(b.Places) {
		return false
	}
	return differing(a, b) == 0
}

// differing counts the places that differ, one by one.
func differing(a, b api.Picture) int {
	count := 0
	for i, g := range a.Places {
		o := b.Places[i]
		if g.Text != o.Text || g.Width != o.Width || g.Attr.Fore != o.Attr.Fore || g.Attr.Back != o.Attr.Back || g.Attr.Marks != o.Attr.Marks {
			count++
		}
	}
	return count
}
