package vt

import (
	"slices"
	"strings"

	"mullion/api"
)

const space = ' '

// glyph is what a place holds; two are the same if all of it is.
type glyph struct {
	letter rune // 0: the right place of a letter of width 2
	width  int
	attr   api.Attr
}

func blank(attr api.Attr) glyph { return glyph{letter: space, width: 1, attr: attr} }

// right is what the right place of a letter of width 2 holds.
func right(attr api.Attr) glyph { return glyph{attr: attr} }

func (g glyph) isBlank() bool { return g == blank(g.attr) }

func (g glyph) isRight() bool { return g == right(g.attr) }

// told is the glyph as it is handed out. Most places are blanks: their text
// need not be made anew each time.
func (g glyph) told() api.Glyph {
	told := api.Glyph{Width: g.width, Attr: g.attr}
	switch {
	case g.isBlank():
		told.Text = " "
	case !g.isRight():
		told.Text = string(g.letter)
	}
	return told
}

// row is the places of one row.
type row []glyph

func newRow(w int, g glyph) row {
	r := make(row, w)
	r.fill(g)
	return r
}

func newRows(h int, w int, g glyph) []row {
	rows := make([]row, h)
	for y := range rows {
		rows[y] = newRow(w, g)
	}
	return rows
}

func (r row) fill(g glyph) {
	for x := range r {
		r[x] = g
	}
}

func (r row) isBlank() bool {
	for _, g := range r {
		if !g.isBlank() {
			return false
		}
	}
	return true
}

// text is the row's letters without the blanks at its end.
func (r row) text() string {
	var b strings.Builder
	for _, g := range r {
		if !g.isRight() {
			b.WriteRune(g.letter)
		}
	}
	return strings.TrimRight(b.String(), string(space))
}

func appendTexts(l []string, rows []row) []string {
	for _, r := range rows {
		l = append(l, r.text())
	}
	return l
}

// cut mends a letter of width 2 that lies half ahead of a column.
func (r row) cut(x int) {
	if 0 < x && x < len(r) && r[x].isRight() {
		r[x-1], r[x] = blank(r[x].attr), blank(r[x].attr)
	}
}

// span is the places from a column up to another one, which is not among them,
// with no letter half in it.
func (r row) span(from int, to int) row {
	r.cut(from)
	r.cut(to)
	return r[from:to]
}

// putIn lets n places in at a column; the last n are lost.
func (r row) putIn(x int, n int, g glyph) {
	moved := r.span(x, len(r)-n)
	copy(r[x+n:], moved)
	r[x : x+n].fill(g)
}

// takeOut takes n places out from a column on; n come in at the end.
func (r row) takeOut(x int, n int, g glyph) {
	r.span(x, x+n)
	copy(r[x:], r[x+n:])
	r[len(r)-n:].fill(g)
}

// sized is the row with another number of places, in memory of its own.
func (r row) sized(w int) row {
	sized := newRow(w, blank(api.Attr{}))
	r.cut(w)
	copy(sized, r)
	return sized
}

// past is the rows that have left the main screen, the oldest first.
type past struct {
	limit int
	rows  []row
}

// push keeps a copy of a row: the screen writes on into the row's own memory.
func (p *past) push(r row) {
	if p.limit == 0 {
		return
	}
	if len(p.rows) == p.limit {
		p.rows[0] = nil // it would stay reachable by the memory below the list
		p.rows = p.rows[1:]
	}
	p.rows = append(p.rows, slices.Clone(r))
}

// pop gives the newest row back; there is one.
func (p *past) pop() row {
	newest := len(p.rows) - 1
	r := p.rows[newest]
	p.rows[newest] = nil
	p.rows = p.rows[:newest]
	return r
}
