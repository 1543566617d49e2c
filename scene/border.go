package scene

import (
	"mullion/api"
	"mullion/layout"
)

// The sides to which a border's form reaches: sums of these.
const (
	up = 1 << iota
	down
	left
	right
)

// forms are the letters of borders, by the sides to which they reach.
var forms = [16]rune{
	up + down:                0x2502,
	left + right:             0x2500,
	up + down + left:         0x2524,
	up + down + right:        0x251c,
	left + right + up:        0x2534,
	left + right + down:      0x252c,
	up + down + left + right: 0x253c,
}

// border is what lies between two parts of a row or of a column.
type border struct {
	box
	kind int
}

// bordersOf tells all borders of a layout: behind each part, but where its
// whole ends with it.
func bordersOf(cells []api.Cell) []border {
	var all []border
	var above []api.Cell // the cells in which the present one lies, itself too
	for _, c := range cells {
		above = append(above[:c.Depth], c)
		if c.Depth == 0 {
			continue
		}
		switch whole := above[c.Depth-1]; {
		case whole.Kind == api.CellRow && c.X+c.W < whole.X+whole.W:
			all = append(all, border{box{c.X + c.W, c.Y, 1, c.H}, api.CellRow})
		case whole.Kind == api.CellCol && c.Y+c.H < whole.Y+whole.H:
			all = append(all, border{box{c.X, c.Y + c.H, c.W, 1}, api.CellCol})
		}
	}
	return all
}

// line is a sheet that shows one border among all of them; near is what
// touches the active pane.
type line struct {
	border
	all  []border
	near box
}

func (l line) glyph(x, y int) api.Glyph {
	x, y = l.x+x, l.y+y
	var a api.Attr
	if l.near.has(x, y) {
		a.Fore = 3
	}
	return api.Glyph{Text: string(forms[l.sides(x, y)]), Width: 1, Attr: a}
}

// sides tells to which sides the border reaches at a place: along itself, and
// to where a border of the other kind ends at it.
func (l line) sides(x, y int) int {
	if l.kind == api.CellRow {
		return up + down + l.joined(x-1, y, left) + l.joined(x+1, y, right)
	}
	return left + right + l.joined(x, y-1, up) + l.joined(x, y+1, down)
}

// joined is the side, if a border of the other kind lies at the place there;
// else 0.
func (l line) joined(x, y int, side int) int {
	for _, other := range l.all {
		if other.kind != l.kind && other.has(x, y) {
			return side
		}
	}
	return 0
}

// layBorders lays all borders, as far as they lie in a part of the stage.
func (s *stage) layBorders(w api.Window, part box) {
	all := bordersOf(w.Cells)
	active, _ := layout.Find(w.Cells, w.Active)
	near := boxOf(w.Cells[active]).wider()
	for _, b := range all {
		s.lay(b.within(part), line{b, all, near})
	}
}
