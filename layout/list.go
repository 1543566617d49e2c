package layout

import (
	"slices"

	"mullion/api"
)

// maxCells: with two children or more each, there are fewer splits than panes.
const maxCells = 2*api.MaxPanes - 1

// read is the tree that a list lays down; nil, if the list is no layout.
// Places and depths are not looked at one by one: they are right if the tree, laid down anew, gives the whole list.
func read(l []api.Cell) part {
	if len(l) > maxCells {
		return nil
	}
	root, _ := take(l, 0)
	if root == nil || !root.sound() {
		return nil
	}
	if !slices.Equal(lay(root), l) || !fewAndDistinct(paneIds(l)) {
		return nil
	}
	return root
}

// take reads the part that a list begins with, if it stands so deep, and gives what is left behind it.
func take(l []api.Cell, depth int) (part, []api.Cell) {
	if len(l) == 0 || l[0].Depth != depth {
		return nil, l
	}
	c := l[0]
	b := box{c.X, c.Y, c.W, c.H}
	switch c.Kind {
	case api.CellPane:
		return &leaf{b, c.Pane}, l[1:]
	case api.CellRow, api.CellCol:
		parts, rest := takeAll(l[1:], depth+1)
		return &split{b, c.Kind, parts}, rest
	}
	return nil, l
}

func takeAll(l []api.Cell, depth int) ([]part, []api.Cell) {
	var parts []part
	for {
		p, rest := take(l, depth)
		if p == nil {
			return parts, l
		}
		parts, l = append(parts, p), rest
	}
}

// lay gives every part its place, and tells the tree as a list.
func lay(root part) []api.Cell {
	root.move(0, 0)
	return root.tell(nil, 0)
}

func paneIds(l []api.Cell) []int {
	var ids []int
	for _, c := range l {
		if c.Kind == api.CellPane {
			ids = append(ids, c.Pane)
		}
	}
	return ids
}

func fewAndDistinct(ids []int) bool {
	slices.Sort(ids)
	return len(ids) <= api.MaxPanes && len(slices.Compact(ids)) == len(ids)
}
