package plan

import (
	"mullion/api"
	"mullion/octal"
)

// bodyOf writes a layout's cells, each with the sign of what it is: its parts, or its pane, stand behind it.
func bodyOf(l []api.Cell) string {
	var text, open []byte // open: the brackets that are still to be closed
	for i, c := range l {
		for len(open) > c.Depth {
			text, open = shut(text, open)
		}
		if i > 0 && l[i-1].Depth >= c.Depth { // else the cell ahead is the one that it is the first part of
			text = append(text, ',')
		}
		text = appendBox(text, c)
		switch c.Kind {
		case api.CellRow:
			text, open = append(text, '{'), append(open, '}')
		case api.CellCol:
			text, open = append(text, '['), append(open, ']')
		default:
			text = append(append(text, ','), octal.PutNumber(c.Pane)...)
		}
	}
	for len(open) > 0 {
		text, open = shut(text, open)
	}
	return string(text)
}

func shut(text, open []byte) ([]byte, []byte) {
	last := len(open) - 1
	return append(text, open[last]), open[:last]
}

func appendBox(text []byte, c api.Cell) []byte {
	text = append(append(text, octal.PutNumber(c.W)...), 'x')
	text = append(append(text, octal.PutNumber(c.H)...), ',')
	text = append(append(text, octal.PutNumber(c.X)...), ',')
	return append(text, octal.PutNumber(c.Y)...)
}

// reader takes a body from its beginning on; it gives up by a panic, so that none of its calls has an error to hand on.
type reader struct {
	rest  string
	cells []api.Cell
}

func giveUp() { panic("not a body") }

// readBody gives the cells of a body, a layout or not; it panics, if the text is not made as a body is.
func readBody(body string) []api.Cell {
	r := reader{rest: body}
	r.cell(0)
	if r.rest != "" {
		giveUp()
	}
	return r.cells
}

func (r *reader) cell(depth int) {
	c := api.Cell{Depth: depth}
	c.W = r.number()
	r.expect('x')
	c.H = r.number()
	r.expect(',')
	c.X = r.number()
	r.expect(',')
	c.Y = r.number()
	switch r.next() {
	case ',':
		c.Kind, c.Pane = api.CellPane, r.number()
		r.cells = append(r.cells, c)
	case '{':
		c.Kind = api.CellRow
		r.cells = append(r.cells, c)
		r.parts(depth+1, '}')
	case '[':
		c.Kind = api.CellCol
		r.cells = append(r.cells, c)
		r.parts(depth+1, ']')
	default:
		giveUp()
	}
}

func (r *reader) parts(depth int, end byte) {
	r.cell(depth)
	for {
		switch r.next() {
		case ',':
			r.cell(depth)
		case end:
			return
		default:
			giveUp()
		}
	}
}

func (r *reader) next() byte {
	if r.rest == "" {
		giveUp()
	}
	b := r.rest[0]
	r.rest = r.rest[1:]
	return b
}

func (r *reader) expect(b byte) {
	if r.next() != b {
		giveUp()
	}
}

func (r *reader) number() int {
	digits := 0
	for digits < len(r.rest) && isDigit(r.rest[digits]) {
		digits++
	}
	n, ok := octal.Number(r.rest[:digits])
	if !ok {
		giveUp()
	}
	r.rest = r.rest[digits:]
	return n
}

func isDigit(b byte) bool { return b >= '0' && b <= '9' }
