package copying

import (
	"mullion/api"
	"mullion/vt"
)

// Picture tells what is shown.
func (m *Mode) Picture() api.Picture {
	ahead := m.text[m.cursor.line][:m.cursor.letters]
	p := api.Picture{W: m.w, H: m.h, X: min(widthOf(ahead), m.w-1), Y: m.cursor.line - m.top}
	p.Places = make([]api.Glyph, 0, m.w*m.h)
	for y := range m.h {
		p.Places = m.appendRow(p.Places, m.top+y)
	}
	return p
}

// widthOf is how many places letters take.
func widthOf(letters []rune) int {
	sum := 0
	for _, letter := range letters {
		sum += vt.Width(letter)
	}
	return sum
}

// appendRow appends the places of a row that shows a line, if there is one of
// that number.
func (m *Mode) appendRow(places []api.Glyph, line int) []api.Glyph {
	end := len(places) + m.w
	if line <= m.text.last() {
		places = m.appendLine(places, line, end)
	}
	for len(places) < end {
		places = append(places, api.Glyph{Text: " ", Width: 1})
	}
	return places
}

// appendLine appends a line's letters, as long as they fit ahead of the end.
func (m *Mode) appendLine(places []api.Glyph, line int, end int) []api.Glyph {
	from, to := m.selected(line)
	for i, letter := range m.text[line] {
		g := api.Glyph{Text: string(letter), Width: vt.Width(letter)}
		if from <= i && i < to {
			g.Attr.Marks = api.MarkReverse
		}
		if len(places)+g.Width > end {
			break
		}
		places = append(places, g)
		if g.Width == 2 {
			places = append(places, api.Glyph{Attr: g.Attr})
		}
	}
	return places
}
