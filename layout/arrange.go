package layout

import "mullion/api"

// Arrange lays all panes anew.
// It is too small just where what would be laid down is not sound.
func Arrange(l []api.Cell, how int, size int) ([]api.Cell, api.Errno) {
	root := read(l)
	if root == nil {
		return nil, api.ErrLayout
	}
	if how < api.ArrEvenRow || how > api.ArrTiled {
		return nil, api.ErrArg
	}
	if ids := paneIds(l); len(ids) > 1 {
		root = arranged(how, ids, box{w: l[0].W, h: l[0].H}, size)
	}
	if !root.sound() {
		return nil, api.ErrSmall
	}
	return lay(root), api.OK
}

func arranged(how int, ids []int, b box, size int) part {
	switch how {
	case api.ArrEvenRow:
		return even(api.CellRow, ids, b)
	case api.ArrEvenCol:
		return even(api.CellCol, ids, b)
	case api.ArrMainRow:
		return firstAndOthers(api.CellCol, ids, b, size)
	case api.ArrMainCol:
		return firstAndOthers(api.CellRow, ids, b, size)
	}
	return tiled(ids, b)
}

// even lays panes by shares; a single one stands for itself.
func even(kind int, ids []int, b box) part {
	if len(ids) == 1 {
		return &leaf{b, ids[0]}
	}
	s := &split{box: b, kind: kind}
	for i, id := range ids {
		s.parts = append(s.parts, &leaf{b.with(kind, share(b.extent(kind), len(ids), i)), id})
	}
	return s
}

// share is what the i-th of n gets of a whole; below 1 somewhere, if that is too small.
func share(whole, n, i int) int {
	left := whole - (n - 1)
	if i < left%n {
		return left/n + 1
	}
	return left / n
}

func firstAndOthers(kind int, ids []int, b box, size int) part {
	whole := b.extent(kind)
	others := half(whole)
	if size >= 1 {
		others = max(whole-1-size, 1)
	}
	first := &leaf{b.with(kind, whole-1-others), ids[0]}
	return &split{b, kind, []part{first, even(across(kind), ids[1:], b.with(kind, others))}}
}

func tiled(ids []int, b box) part {
	rows, cols := grid(len(ids))
	s := &split{box: b, kind: api.CellCol}
	for i := range rows {
		here := ids[i*cols : min((i+1)*cols, len(ids))]
		s.parts = append(s.parts, even(api.CellRow, here, b.with(api.CellCol, share(b.h, rows, i))))
	}
	return s
}

func grid(n int) (int, int) {
	rows, cols := 1, 1
	for rows*cols < n {
		rows++
		if rows*cols < n {
			cols++
		}
	}
	return rows, cols
}
