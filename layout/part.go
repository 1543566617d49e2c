package layout

import (
	"slices"

	"mullion/api"
)

// part is a cell of the tree, a leaf or a split: who asks for its size, or changes it, need not know which.
// A direction goes by the kind of cell whose it is: CellRow stands for the width, CellCol for the height.
type part interface {
	extent(kind int) int
	room(kind int) int
	stretch(kind int, n int)
	move(x int, y int)
	tell(l []api.Cell, depth int) []api.Cell
	sound() bool
	way(pane int) ([]step, *leaf)
	as(kind int) *split
}

// step is a split that a pane lies in, and which of its parts holds the pane.
type step struct {
	in *split
	at int
}

// box is where a part lies.
type box struct{ x, y, w, h int }

// leaf is a pane.
type leaf struct {
	box
	pane int
}

// split is a row or a column.
type split struct {
	box
	kind  int
	parts []part
}

// across is the other direction.
func across(kind int) int {
	if kind == api.CellRow {
		return api.CellCol
	}
	return api.CellRow
}

func isCut(kind int) bool { return kind == api.CellRow || kind == api.CellCol }

func isSide(n int) bool { return n >= 1 && n <= api.MaxSide }

func isId(pane int) bool { return pane >= 1 && pane <= api.MaxNumber }

func (b *box) extent(kind int) int {
	if kind == api.CellRow {
		return b.w
	}
	return b.h
}

func (b *box) stretch(kind int, n int) {
	if kind == api.CellRow {
		b.w += n
	} else {
		b.h += n
	}
}

func (b *box) move(x int, y int) { b.x, b.y = x, y }

// with is a box like this one, but for its extent.
func (b *box) with(kind int, n int) box {
	other := *b
	other.stretch(kind, n-b.extent(kind))
	return other
}

// fits asks for the greatest side too: without it, sums of sides could wrap round to right ones.
func (b *box) fits() bool { return isSide(b.w) && isSide(b.h) }

func (b *box) cell(depth int, kind int, pane int) api.Cell {
	return api.Cell{Depth: depth, Kind: kind, X: b.x, Y: b.y, W: b.w, H: b.h, Pane: pane}
}

func (f *leaf) room(kind int) int { return f.extent(kind) - 1 }

func (f *leaf) tell(l []api.Cell, depth int) []api.Cell {
	return append(l, f.cell(depth, api.CellPane, f.pane))
}

func (f *leaf) sound() bool { return f.fits() && isId(f.pane) }

func (f *leaf) way(pane int) ([]step, *leaf) {
	if f.pane != pane {
		return nil, nil
	}
	return nil, f
}

func (f *leaf) as(kind int) *split { return nil }

// join makes a split of parts; one of its own kind gives it its children, since no row stands in a row.
func join(kind int, parts ...part) *split {
	s := &split{kind: kind}
	for _, p := range parts {
		if same := p.as(kind); same != nil {
			s.parts = append(s.parts, same.parts...)
		} else {
			s.parts = append(s.parts, p)
		}
	}
	s.box = s.around()
	return s
}

// around is the box that the children fill, with the borders between them.
func (s *split) around() box {
	var b box
	b.stretch(across(s.kind), s.parts[0].extent(across(s.kind)))
	b.stretch(s.kind, len(s.parts)-1)
	for _, p := range s.parts {
		b.stretch(s.kind, p.extent(s.kind))
	}
	return b
}

func (s *split) room(kind int) int {
	all, least := 0, api.MaxSide
	for _, p := range s.parts {
		room := p.room(kind)
		all, least = all+room, min(least, room)
	}
	if kind == s.kind {
		return all
	}
	return least
}

func (s *split) stretch(kind int, n int) {
	s.box.stretch(kind, n)
	if kind == s.kind {
		s.deal(n)
		return
	}
	for _, p := range s.parts {
		p.stretch(kind, n)
	}
}

// deal ends since nobody asks for more lines back than there is room.
func (s *split) deal(n int) {
	line := 1
	if n < 0 {
		line = -1
	}
	for i := 0; n != 0; i = (i + 1) % len(s.parts) {
		p := s.parts[i]
		if line < 0 && p.room(s.kind) == 0 {
			continue
		}
		p.stretch(s.kind, line)
		n -= line
	}
}

func (s *split) move(x int, y int) {
	s.box.move(x, y)
	for _, p := range s.parts {
		p.move(x, y)
		if s.kind == api.CellRow {
			x += p.extent(s.kind) + 1
		} else {
			y += p.extent(s.kind) + 1
		}
	}
}

func (s *split) tell(l []api.Cell, depth int) []api.Cell {
	l = append(l, s.cell(depth, s.kind, 0))
	for _, p := range s.parts {
		l = p.tell(l, depth+1)
	}
	return l
}

func (s *split) sound() bool {
	if len(s.parts) < 2 || !s.fits() {
		return false
	}
	for _, p := range s.parts {
		if !p.sound() || p.as(s.kind) != nil || p.extent(across(s.kind)) != s.extent(across(s.kind)) {
			return false
		}
	}
	b := s.around()
	return b.extent(s.kind) == s.extent(s.kind)
}

// way tells the nearest split first.
func (s *split) way(pane int) ([]step, *leaf) {
	for i, p := range s.parts {
		if way, f := p.way(pane); f != nil {
			return append(way, step{s, i}), f
		}
	}
	return nil, nil
}

func (s *split) as(kind int) *split {
	if s.kind != kind {
		return nil
	}
	return s
}

// replace puts a part where the way leads to, and answers the root; a part of its new parent's kind gives its children.
func replace(root part, way []step, p part) part {
	if len(way) == 0 {
		return p
	}
	up := way[0]
	if same := p.as(up.in.kind); same != nil {
		up.in.parts = slices.Replace(up.in.parts, up.at, up.at+1, same.parts...)
	} else {
		up.in.parts[up.at] = p
	}
	return root
}
