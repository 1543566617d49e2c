package layout

import (
	"slices"

	"mullion/api"
)

// Split cuts a pane in two.
func Split(l []api.Cell, pane int, kind int, size int, before bool, id int) ([]api.Cell, api.Errno) {
	root := read(l)
	if root == nil {
		return nil, api.ErrLayout
	}
	if !isCut(kind) {
		return nil, api.ErrArg
	}
	way, old := root.way(pane)
	if old == nil {
		return nil, api.ErrNoPane
	}
	if err := mayJoin(l, id); err != api.OK {
		return nil, err
	}
	whole := old.extent(kind)
	if whole < 3 {
		return nil, api.ErrSmall
	}
	n := min(wanted(size, whole), whole-2)
	fresh := &leaf{old.with(kind, n), id}
	old.stretch(kind, -n-1)
	return lay(replace(root, way, join(kind, inOrder(old, fresh, before)...))), api.OK
}

// Full puts a pane beside the whole.
func Full(l []api.Cell, kind int, size int, before bool, id int) ([]api.Cell, api.Errno) {
	root := read(l)
	if root == nil {
		return nil, api.ErrLayout
	}
	if !isCut(kind) {
		return nil, api.ErrArg
	}
	if err := mayJoin(l, id); err != api.OK {
		return nil, err
	}
	room := root.room(kind)
	if room < 2 {
		return nil, api.ErrSmall
	}
	n := min(wanted(size, root.extent(kind)), room-1)
	var b box
	b.stretch(kind, n)
	b.stretch(across(kind), root.extent(across(kind)))
	root.stretch(kind, -n-1)
	return lay(join(kind, inOrder(root, &leaf{b, id}, before)...)), api.OK
}

// mayJoin tells whether a new pane may have that id.
func mayJoin(l []api.Cell, id int) api.Errno {
	ids := paneIds(l)
	if !isId(id) || slices.Contains(ids, id) {
		return api.ErrPaneId
	}
	if len(ids) == api.MaxPanes {
		return api.ErrManyPanes
	}
	return api.OK
}

func half(whole int) int { return (whole - 1) / 2 }

// wanted is the extent that is asked for, of a whole: half of it, if none is told.
func wanted(size, whole int) int {
	if size < 1 {
		return half(whole)
	}
	return size
}

func inOrder(old, fresh part, before bool) []part {
	if before {
		return []part{fresh, old}
	}
	return []part{old, fresh}
}

// Close takes a pane out.
func Close(l []api.Cell, pane int) ([]api.Cell, api.Errno) {
	root := read(l)
	if root == nil {
		return nil, api.ErrLayout
	}
	way, gone := root.way(pane)
	if gone == nil {
		return nil, api.ErrNoPane
	}
	if len(way) == 0 {
		return nil, api.ErrLastPane
	}
	in, at := way[0].in, way[0].at
	in.parts = slices.Delete(in.parts, at, at+1)
	in.parts[max(at-1, 0)].stretch(in.kind, gone.extent(in.kind)+1)
	if len(in.parts) == 1 {
		root = replace(root, way[1:], in.parts[0])
	}
	return lay(root), api.OK
}

// Resize gives the whole another size.
func Resize(l []api.Cell, w int, h int) ([]api.Cell, api.Errno) {
	root := read(l)
	if root == nil {
		return nil, api.ErrLayout
	}
	if !isSide(w) || !isSide(h) {
		return nil, api.ErrSide
	}
	if w < least(root, api.CellRow) || h < least(root, api.CellCol) {
		return nil, api.ErrSmall
	}
	root.stretch(api.CellRow, w-root.extent(api.CellRow))
	root.stretch(api.CellCol, h-root.extent(api.CellCol))
	return lay(root), api.OK
}

// Push moves the border behind a pane; by how much it was moved.
func Push(l []api.Cell, pane int, kind int, n int) ([]api.Cell, int, api.Errno) {
	root, near, err := nearest(l, pane, kind)
	if err != api.OK {
		return nil, 0, err
	}
	moved := near.push(n)
	return lay(root), moved, api.OK
}

// Set gives a pane a width or a height, as far as its border can go.
func Set(l []api.Cell, pane int, kind int, size int) ([]api.Cell, api.Errno) {
	root, near, err := nearest(l, pane, kind)
	if err != api.OK {
		return nil, err
	}
	if !isSide(size) {
		return nil, api.ErrSide
	}
	n := size - near.in.parts[near.at].extent(kind)
	if near.at != near.border() {
		n = -n
	}
	near.push(n)
	return lay(root), api.OK
}

// nearest is the first cell of that kind above a pane.
func nearest(l []api.Cell, pane int, kind int) (part, step, api.Errno) {
	root := read(l)
	if root == nil {
		return nil, step{}, api.ErrLayout
	}
	if !isCut(kind) {
		return nil, step{}, api.ErrArg
	}
	way, f := root.way(pane)
	if f == nil {
		return nil, step{}, api.ErrNoPane
	}
	for _, s := range way {
		if s.in.kind == kind {
			return root, s, api.OK
		}
	}
	return nil, step{}, api.ErrAlone
}

// border is the part whose far border is moved: behind the last one there is none.
func (s step) border() int { return min(s.at, len(s.in.parts)-2) }

func (s step) push(n int) int {
	c, kind := s.border(), s.in.kind
	ahead, behind := s.in.parts[:c+1], s.in.parts[c+1:]
	if n >= 0 {
		return draw(ahead[c], behind, kind, n)
	}
	ahead = slices.Clone(ahead)
	slices.Reverse(ahead)
	// No border goes further than MaxSide, and the least of all numbers has no opposite.
	return -draw(behind[0], ahead, kind, -max(n, -api.MaxSide))
}

// draw lets parts give up to n lines to another one, the first that has room first; how many they gave.
func draw(to part, from []part, kind int, n int) int {
	drawn := 0
	for _, p := range from {
		lines := min(n-drawn, p.room(kind))
		p.stretch(kind, -lines)
		to.stretch(kind, lines)
		drawn += lines
	}
	return drawn
}

// Swap lets two panes change places.
func Swap(l []api.Cell, a int, b int) ([]api.Cell, api.Errno) {
	root := read(l)
	if root == nil {
		return nil, api.ErrLayout
	}
	_, one := root.way(a)
	_, two := root.way(b)
	if one == nil || two == nil {
		return nil, api.ErrNoPane
	}
	one.pane, two.pane = b, a
	return lay(root), api.OK
}
