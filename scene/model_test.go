package scene

import (
	"regexp"
	"strings"

	"mullion/api"
	"mullion/vt"
)

// asked is one question: what is to be seen of a window. The model answers it place by place, each place by itself.
type asked struct {
	w             api.Window
	shown         []api.Picture
	status        string
	width, height int
}

// picture is the answer, where it is not refused.
func (q asked) picture() api.Picture {
	p := api.Picture{W: q.width, H: q.height}
	for y := range q.height {
		for x := range q.width {
			p.Places = append(p.Places, q.place(x, y))
		}
	}
	copy(p.Places[q.width*(q.height-1):], statusOf(q.status, q.width))
	cell, own := cellOf(q.w, q.w.Active), q.pictureOf(q.w.Active)
	if q.w.Zoom {
		cell = q.w.Cells[0]
	}
	p.X, p.Y, p.Hidden, p.Title = cell.X+own.X, cell.Y+own.Y, own.Hidden, own.Title
	if own.X >= cell.W || own.Y >= cell.H || p.X >= q.width || p.Y >= q.height-1 {
		p.X, p.Y, p.Hidden = 0, 0, true
	}
	return p
}

// place is what a place of the window's part holds.
func (q asked) place(x, y int) api.Glyph {
	whole := q.w.Cells[0]
	switch at := around(q.w.Cells, x, y); {
	case x >= whole.W || y >= whole.H:
		return api.Glyph{Text: "·", Width: 1, Attr: api.Attr{Marks: 2}}
	case q.w.Zoom:
		return cut(q.pictureOf(q.w.Active), x, y, min(whole.W, q.width))
	case at.Kind == api.CellPane:
		return cut(q.pictureOf(at.Pane), x-at.X, y-at.Y, min(at.W, q.width-at.X))
	}
	g := api.Glyph{Text: borderOf(q.w.Cells, x, y), Width: 1}
	if c := cellOf(q.w, q.w.Active); c.X-1 <= x && x <= c.X+c.W && c.Y-1 <= y && y <= c.Y+c.H {
		g.Attr.Fore = 3
	}
	return g
}

// cut is a place of a picture of which so many columns are seen.
func cut(p api.Picture, x, y, columns int) api.Glyph {
	space := api.Glyph{Text: " ", Width: 1}
	if x >= p.W || y >= p.H {
		return space
	}
	g := p.Places[p.W*y+x]
	if g.Width == 2 && x+1 == columns {
		space.Attr = g.Attr
		return space
	}
	return g
}

func (q asked) pictureOf(pane int) api.Picture {
	n := 0
	for _, c := range q.w.Cells {
		if c.Pane == pane {
			return q.shown[n]
		}
		if c.Kind == api.CellPane {
			n++
		}
	}
	panic("no such pane")
}

func cellOf(w api.Window, pane int) api.Cell {
	for _, c := range w.Cells {
		if c.Pane == pane {
			return c
		}
	}
	panic("no such pane")
}

// around is the innermost cell in which a place lies: the last one of the list. Outside of the window it is none.
func around(cells []api.Cell, x, y int) api.Cell {
	var in api.Cell
	for _, c := range cells {
		if c.X <= x && x <= c.X+c.W-1 && c.Y <= y && y <= c.Y+c.H-1 {
			in = c
		}
	}
	return in
}

// borderOf is the form of a border: what lies innermost around it is the row or the column whose parts it lies between.
func borderOf(cells []api.Cell, x, y int) string {
	kind := func(x, y int) int { return around(cells, x, y).Kind }
	if kind(x, y) == api.CellRow {
		return chosen("│┤├┼", kind(x-1, y) == api.CellCol, kind(x+1, y) == api.CellCol)
	}
	return chosen("─┴┬┼", kind(x, y-1) == api.CellRow, kind(x, y+1) == api.CellRow)
}

// chosen is the letter of four for: neither, the first, the second, both.
func chosen(four string, first, second bool) string {
	n := 0
	if first {
		n++
	}
	if second {
		n += 2
	}
	return string([]rune(four)[n])
}

// character is a character in UTF-8, or any one byte; the bytes are written as the code points of their numbers.
var character = regexp.MustCompile(strings.ReplaceAll(`^(?s:[\x00-\x7f]|[\xc2-\xdf]T|\xe0[\xa0-\xbf]T|[\xe1-\xec\xee\xef]TT|\xed[\x80-\x9f]T|\xf0[\x90-\xbf]TT|[\xf1-\xf3]TTT|\xf4[\x80-\x8f]TT|.)`, "T", `[\x80-\xbf]`))

// lettersIn are the letters of a text, those of width 0 too.
func lettersIn(text string) []string {
	var list []string
	numbers := make([]rune, len(text))
	for i := range len(text) {
		numbers[i] = rune(text[i])
	}
	for len(numbers) > 0 {
		n := len([]rune(character.FindString(string(numbers))))
		letter := text[len(text)-len(numbers):][:n]
		if numbers[0] >= 0x80 && n == 1 || vt.Width([]rune(letter)[0]) < 0 {
			letter = "?"
		}
		list = append(list, letter)
		numbers = numbers[n:]
	}
	return list
}

// statusOf is the status row.
func statusOf(text string, width int) []api.Glyph {
	a := api.Attr{Fore: 1, Back: 3}
	room := width
	var row []api.Glyph
	for _, letter := range lettersIn(text) {
		n := vt.Width([]rune(letter)[0])
		if n == 0 {
			continue
		}
		if room -= n; room < 0 {
			break
		}
		row = append(row, []api.Glyph{{Text: letter, Width: n, Attr: a}, {Attr: a}}[:n]...)
	}
	for range width - len(row) {
		row = append(row, api.Glyph{Text: " ", Width: 1, Attr: a})
	}
	return row
}

// whereOf is what Where answers: by the innermost cell.
func whereOf(w api.Window, x, y int) (int, int, int, bool) {
	at := around(w.Cells, x, y)
	switch {
	case at.Kind != 0 && w.Zoom:
		return w.Active, x, y, true
	case at.Kind == api.CellPane:
		return at.Pane, x - at.X, y - at.Y, true
	}
	return 0, 0, 0, false
}
