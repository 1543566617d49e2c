package layout

import (
	"math/big"
	"slices"
	"strconv"
	"strings"
	"testing"

	"mullion/api"
)

// The tests' own picture of a layout: a tree of values, each change a new tree. What chapter 4 says is said anew here, so that the package can be held against it.
type node struct {
	kind, w, h, pane int
	kids             []node
}

func pn(id, w, h int) node { return node{kind: api.CellPane, w: w, h: h, pane: id} }

func rw(kids ...node) node { return cutOf(api.CellRow, kids) }

func cl(kids ...node) node { return cutOf(api.CellCol, kids) }

// cutOf takes its size from its kids: the sum along, with the borders, and the first one's across.
func cutOf(kind int, kids []node) node {
	n := node{kind: kind, w: kids[0].w, h: kids[0].h, kids: kids}
	for _, k := range kids[1:] {
		if kind == api.CellRow {
			n.w += 1 + k.w
		} else {
			n.h += 1 + k.h
		}
	}
	return n
}

func (n node) list() []api.Cell { return n.listAt(0, 0, 0) }

func (n node) listAt(depth, x, y int) []api.Cell {
	l := []api.Cell{{Depth: depth, Kind: n.kind, X: x, Y: y, W: n.w, H: n.h, Pane: n.pane}}
	for _, k := range n.kids {
		l = append(l, k.listAt(depth+1, x, y)...)
		if n.kind == api.CellRow {
			x += k.w + 1
		} else {
			y += k.h + 1
		}
	}
	return l
}

// kidsOf gives the places of a cell's children in the list.
func kidsOf(l []api.Cell, at int) []int {
	var kids []int
	for i := at + 1; i < len(l) && l[i].Depth > l[at].Depth; i++ {
		if l[i].Depth == l[at].Depth+1 {
			kids = append(kids, i)
		}
	}
	return kids
}

func treeOf(l []api.Cell) node { return treeAt(l, 0) }

func treeAt(l []api.Cell, at int) node {
	c := l[at]
	n := node{kind: c.Kind, w: c.W, h: c.H, pane: c.Pane}
	for _, k := range kidsOf(l, at) {
		n.kids = append(n.kids, treeAt(l, k))
	}
	return n
}

func (n node) ids() []int {
	if n.kind == api.CellPane {
		return []int{n.pane}
	}
	var ids []int
	for _, k := range n.kids {
		ids = append(ids, k.ids()...)
	}
	return ids
}

func (n node) has(pane int) bool { return slices.Contains(n.ids(), pane) }

func (n node) size(kind int) int {
	if kind == api.CellRow {
		return n.w
	}
	return n.h
}

func (n node) sized(kind, size int) node {
	if kind == api.CellRow {
		n.w = size
	} else {
		n.h = size
	}
	return n
}

func other(kind int) int { return api.CellRow + api.CellCol - kind }

func (n node) freeIn(kind int) int {
	if n.kind == api.CellPane {
		return n.size(kind) - 1
	}
	var all []int
	for _, k := range n.kids {
		all = append(all, k.freeIn(kind))
	}
	if n.kind != kind {
		return slices.Min(all)
	}
	sum := 0
	for _, free := range all {
		sum += free
	}
	return sum
}

func (n node) stretched(kind, by int) node {
	n = n.sized(kind, n.size(kind)+by)
	n.kids = slices.Clone(n.kids)
	switch {
	case n.kind == api.CellPane:
	case n.kind != kind:
		for i, k := range n.kids {
			n.kids[i] = k.stretched(kind, by)
		}
	case by > 0:
		for i := range by {
			n.kids[i%len(n.kids)] = n.kids[i%len(n.kids)].stretched(kind, 1)
		}
	default:
		for turn, left := 0, -by; left > 0; turn++ {
			i := turn % len(n.kids)
			if n.kids[i].freeIn(kind) > 0 {
				n.kids[i] = n.kids[i].stretched(kind, -1)
				left--
			}
		}
	}
	return n
}

// tidy lets a cut of one child, and a cut in a cut of its kind, go from the whole tree.
func (n node) tidy() node {
	if n.kind == api.CellPane {
		return n
	}
	var kids []node
	for _, k := range n.kids {
		if k = k.tidy(); k.kind == n.kind {
			kids = append(kids, k.kids...)
		} else {
			kids = append(kids, k)
		}
	}
	n.kids = kids
	if len(kids) == 1 {
		return kids[0]
	}
	return n
}

// swapped puts another tree in the place of a pane.
func (n node) swapped(pane int, by node) node {
	if n.kind == api.CellPane {
		if n.pane == pane {
			return by
		}
		return n
	}
	n.kids = slices.Clone(n.kids)
	for i, k := range n.kids {
		n.kids[i] = k.swapped(pane, by)
	}
	return n
}

func exact(numbers ...int) *big.Int {
	sum := new(big.Int)
	for _, n := range numbers {
		sum.Add(sum, big.NewInt(int64(n)))
	}
	return sum
}

// modelCheck asks the points of 'A list is a layout' one by one, in numbers that do not wrap round.
func modelCheck(l []api.Cell) bool {
	if len(l) == 0 {
		return false
	}
	c := l[0]
	if c.Depth != 0 || c.X != 0 || c.Y != 0 || c.W < 1 || c.W > api.MaxSide || c.H < 1 || c.H > api.MaxSide {
		return false
	}
	seen := map[int]int{}
	for i, c := range l {
		if i > 0 && (c.Depth < 1 || c.Depth-1 > l[i-1].Depth) {
			return false
		}
		if i > 0 && c.Depth-1 == l[i-1].Depth && l[i-1].Kind != api.CellRow && l[i-1].Kind != api.CellCol {
			return false
		}
		if c.W < 1 || c.H < 1 {
			return false
		}
		switch c.Kind {
		case api.CellPane:
			if seen[c.Pane]++; c.Pane < 1 || c.Pane > api.MaxNumber || seen[c.Pane] > 1 || len(seen) > api.MaxPanes {
				return false
			}
		case api.CellRow, api.CellCol:
			if c.Pane != 0 || !modelFilled(l, i) {
				return false
			}
		default:
			return false
		}
	}
	return true
}

// flipped lets a column be looked at as a row.
func flipped(c api.Cell) api.Cell {
	c.X, c.Y, c.W, c.H = c.Y, c.X, c.H, c.W
	return c
}

func modelFilled(l []api.Cell, at int) bool {
	whole, kids := l[at], kidsOf(l, at)
	if len(kids) < 2 {
		return false
	}
	turn := func(c api.Cell) api.Cell { return c }
	if whole.Kind == api.CellCol {
		turn = flipped
	}
	whole = turn(whole)
	x := exact(whole.X)
	for _, k := range kids {
		c := turn(l[k])
		if l[k].Kind == l[at].Kind || exact(c.X).Cmp(x) != 0 || c.Y != whole.Y || c.H != whole.H {
			return false
		}
		x = exact(c.X, c.W, 1)
	}
	return x.Cmp(exact(whole.X, whole.W, 1)) == 0
}

func modelLeast(l []api.Cell) (int, int, api.Errno) {
	if !modelCheck(l) {
		return 0, 0, api.ErrLayout
	}
	n := treeOf(l)
	return n.w - n.freeIn(api.CellRow), n.h - n.freeIn(api.CellCol), api.OK
}

func modelFree(n node, id int) api.Errno {
	switch {
	case id < 1 || id > api.MaxNumber || n.has(id):
		return api.ErrPaneId
	case len(n.ids()) >= api.MaxPanes:
		return api.ErrManyPanes
	}
	return api.OK
}

func (n node) find(pane int) node {
	for n.kind != api.CellPane {
		for _, k := range n.kids {
			if k.has(pane) {
				n = k
				break
			}
		}
	}
	return n
}

func twoOf(kind int, old, fresh node, before bool) node {
	if before {
		return cutOf(kind, []node{fresh, old})
	}
	return cutOf(kind, []node{old, fresh})
}

func modelSplit(l []api.Cell, pane, kind, size int, before bool, id int) ([]api.Cell, api.Errno) {
	if !modelCheck(l) {
		return nil, api.ErrLayout
	}
	if kind != api.CellRow && kind != api.CellCol {
		return nil, api.ErrArg
	}
	n := treeOf(l)
	if !n.has(pane) {
		return nil, api.ErrNoPane
	}
	if e := modelFree(n, id); e != api.OK {
		return nil, e
	}
	old := n.find(pane)
	s := old.size(kind)
	if s < 3 {
		return nil, api.ErrSmall
	}
	if size < 1 {
		size = (s - 1) / 2
	}
	if size > s-2 {
		size = s - 2
	}
	fresh := old.sized(kind, size)
	fresh.pane = id
	return n.swapped(pane, twoOf(kind, old.sized(kind, s-1-size), fresh, before)).tidy().list(), api.OK
}

func modelFull(l []api.Cell, kind, size int, before bool, id int) ([]api.Cell, api.Errno) {
	if !modelCheck(l) {
		return nil, api.ErrLayout
	}
	if kind != api.CellRow && kind != api.CellCol {
		return nil, api.ErrArg
	}
	n := treeOf(l)
	if e := modelFree(n, id); e != api.OK {
		return nil, e
	}
	room := n.freeIn(kind)
	if room < 2 {
		return nil, api.ErrSmall
	}
	if size < 1 {
		size = (n.size(kind) - 1) / 2
	}
	if size > room-1 {
		size = room - 1
	}
	fresh := pn(id, n.w, n.h).sized(kind, size)
	return twoOf(kind, n.stretched(kind, -size-1), fresh, before).tidy().list(), api.OK
}

func (n node) without(pane int) node {
	n.kids = slices.Clone(n.kids)
	for i, k := range n.kids {
		if !k.has(pane) {
			continue
		}
		if k.kind != api.CellPane {
			n.kids[i] = k.without(pane)
			return n
		}
		heir := i - 1
		if i == 0 {
			heir = 1
		}
		n.kids[heir] = n.kids[heir].stretched(n.kind, k.size(n.kind)+1)
		n.kids = append(n.kids[:i:i], n.kids[i+1:]...)
		return n
	}
	return n
}

func modelClose(l []api.Cell, pane int) ([]api.Cell, api.Errno) {
	if !modelCheck(l) {
		return nil, api.ErrLayout
	}
	n := treeOf(l)
	if !n.has(pane) {
		return nil, api.ErrNoPane
	}
	if len(n.ids()) == 1 {
		return nil, api.ErrLastPane
	}
	return n.without(pane).tidy().list(), api.OK
}

func modelResize(l []api.Cell, w, h int) ([]api.Cell, api.Errno) {
	leastW, leastH, e := modelLeast(l)
	if e != api.OK {
		return nil, e
	}
	if w < 1 || w > api.MaxSide || h < 1 || h > api.MaxSide {
		return nil, api.ErrSide
	}
	if w < leastW || h < leastH {
		return nil, api.ErrSmall
	}
	n := treeOf(l)
	return n.stretched(api.CellRow, w-n.w).stretched(api.CellCol, h-n.h).list(), api.OK
}

func (n node) alone(pane, kind int) bool {
	if n.kind == api.CellPane {
		return true
	}
	for _, k := range n.kids {
		if k.has(pane) {
			return n.kind != kind && k.alone(pane, kind)
		}
	}
	return true
}

func modelBorder(l []api.Cell, pane, kind int) api.Errno {
	switch {
	case !modelCheck(l):
		return api.ErrLayout
	case kind != api.CellRow && kind != api.CellCol:
		return api.ErrArg
	case !treeOf(l).has(pane):
		return api.ErrNoPane
	case treeOf(l).alone(pane, kind):
		return api.ErrAlone
	}
	return api.OK
}

// pushed goes down to the lowest cut of that kind that has the pane in it; by is told which child holds the pane.
func (n node) pushed(pane, kind int, by func(b, c node) int) (node, int) {
	n.kids = slices.Clone(n.kids)
	for i, k := range n.kids {
		if !k.has(pane) {
			continue
		}
		if !k.alone(pane, kind) {
			moved := 0
			n.kids[i], moved = k.pushed(pane, kind, by)
			return n, moved
		}
		c := i
		if c == len(n.kids)-1 {
			c--
		}
		return n.moved(c, by(k, n.kids[c]))
	}
	return n, 0
}

func (n node) moved(c, by int) (node, int) {
	sign, moved, from, taker := 1, 0, c+1, c
	if by < 0 {
		sign, from, taker = -1, c, c+1
	}
	for moved != by {
		i := from
		for i >= 0 && i < len(n.kids) && n.kids[i].freeIn(n.kind) == 0 {
			i += sign
		}
		if i < 0 || i == len(n.kids) {
			break
		}
		lines := n.kids[i].freeIn(n.kind)
		if left := exact(by, -moved); new(big.Int).Abs(left).Cmp(exact(lines)) < 0 {
			lines = int(new(big.Int).Abs(left).Int64())
		}
		n.kids[i] = n.kids[i].stretched(n.kind, -lines)
		n.kids[taker] = n.kids[taker].stretched(n.kind, lines)
		moved += sign * lines
	}
	return n, moved
}

func modelPush(l []api.Cell, pane, kind, by int) ([]api.Cell, int, api.Errno) {
	if e := modelBorder(l, pane, kind); e != api.OK {
		return nil, 0, e
	}
	n, moved := treeOf(l).pushed(pane, kind, func(b, c node) int { return by })
	return n.list(), moved, api.OK
}

func modelSet(l []api.Cell, pane, kind, size int) ([]api.Cell, api.Errno) {
	if e := modelBorder(l, pane, kind); e != api.OK {
		return nil, e
	}
	if size < 1 || size > api.MaxSide {
		return nil, api.ErrSide
	}
	n, _ := treeOf(l).pushed(pane, kind, func(b, c node) int {
		if slices.Equal(b.list(), c.list()) {
			return size - b.size(kind)
		}
		return b.size(kind) - size
	})
	return n.list(), api.OK
}

func modelSwap(l []api.Cell, a, b int) ([]api.Cell, api.Errno) {
	if !modelCheck(l) {
		return nil, api.ErrLayout
	}
	if n := treeOf(l); !n.has(a) || !n.has(b) {
		return nil, api.ErrNoPane
	}
	l = slices.Clone(l)
	for i := range l {
		switch {
		case l[i].Kind != api.CellPane:
		case l[i].Pane == a:
			l[i].Pane = b
		case l[i].Pane == b:
			l[i].Pane = a
		}
	}
	return l, api.OK
}

// sharesOf deals out what the borders leave, one line at a time.
func sharesOf(s, n int) []int {
	l := make([]int, n)
	for i := range max(s-(n-1), 0) {
		l[i%n]++
	}
	return l
}

func evenly(kind int, ids []int, w, h int) node {
	if len(ids) == 1 {
		return pn(ids[0], w, h)
	}
	n := node{kind: kind, w: w, h: h}
	for i, s := range sharesOf(n.size(kind), len(ids)) {
		n.kids = append(n.kids, pn(ids[i], w, h).sized(kind, s))
	}
	return n
}

func mainly(kind int, ids []int, w, h, size int) node {
	n := node{kind: kind, w: w, h: h}
	rest := (n.size(kind) - 1) / 2
	if size >= 1 {
		rest = 1
		if size < n.size(kind)-2 {
			rest = n.size(kind) - 1 - size
		}
	}
	if kind == api.CellCol {
		n.kids = []node{pn(ids[0], w, h-1-rest), evenly(api.CellRow, ids[1:], w, rest)}
	} else {
		n.kids = []node{pn(ids[0], w-1-rest, h), evenly(api.CellCol, ids[1:], rest, h)}
	}
	return n
}

func inTiles(ids []int, w, h int) node {
	r, c := 1, 1
	for r*c < len(ids) {
		r++
		if r*c < len(ids) {
			c++
		}
	}
	n := node{kind: api.CellCol, w: w, h: h}
	for i, s := range sharesOf(h, r) {
		here := ids[i*c:]
		if i < r-1 {
			here = here[:c]
		}
		n.kids = append(n.kids, evenly(api.CellRow, here, w, s))
	}
	return n
}

func modelArrange(l []api.Cell, how, size int) ([]api.Cell, api.Errno) {
	if !modelCheck(l) {
		return nil, api.ErrLayout
	}
	n := treeOf(l)
	ids := n.ids()
	var laid node
	switch {
	case how < 1 || how > 5:
		return nil, api.ErrArg
	case len(ids) == 1:
		laid = n
	case how == api.ArrEvenRow:
		laid = evenly(api.CellRow, ids, n.w, n.h)
	case how == api.ArrEvenCol:
		laid = evenly(api.CellCol, ids, n.w, n.h)
	case how == api.ArrMainRow:
		laid = mainly(api.CellCol, ids, n.w, n.h, size)
	case how == api.ArrMainCol:
		laid = mainly(api.CellRow, ids, n.w, n.h, size)
	default:
		laid = inTiles(ids, n.w, n.h)
	}
	for _, c := range laid.list() {
		if c.Kind == api.CellPane && (c.W < 1 || c.H < 1) {
			return nil, api.ErrSmall
		}
	}
	return laid.list(), api.OK
}

func modelNext(l []api.Cell, pane, by int) (int, api.Errno) {
	if !modelCheck(l) {
		return 0, api.ErrLayout
	}
	ids := treeOf(l).ids()
	at := slices.Index(ids, pane)
	if at < 0 {
		return 0, api.ErrNoPane
	}
	place := new(big.Int).Mod(exact(at, by), exact(len(ids)))
	return ids[place.Int64()], api.OK
}

// painted is the window, place by place: which pane lies there, 0 for a border.
func painted(l []api.Cell) [][]int {
	lines := make([][]int, l[0].H)
	for y := range lines {
		lines[y] = make([]int, l[0].W)
	}
	for _, c := range l {
		for y := c.Y; c.Kind == api.CellPane && y < c.Y+c.H; y++ {
			for x := c.X; x < c.X+c.W; x++ {
				lines[y][x] = c.Pane
			}
		}
	}
	return lines
}

// modelBeside goes from each place of the pane at that side over the border, and round the window.
func modelBeside(l []api.Cell, pane, side int) (int, bool) {
	if !modelCheck(l) || !treeOf(l).has(pane) {
		return 0, false
	}
	step := map[int][2]int{api.SideLeft: {-1, 0}, api.SideRight: {1, 0}, api.SideUp: {0, -1}, api.SideDown: {0, 1}}[side]
	if step == [2]int{} {
		return 0, false
	}
	lines, met := painted(l), map[int]bool{}
	w, h := l[0].W, l[0].H
	for y := range lines {
		for x, here := range lines[y] {
			nextX, nextY := x+step[0], y+step[1]
			inside := nextX >= 0 && nextX < w && nextY >= 0 && nextY < h
			if here != pane || inside && lines[nextY][nextX] == pane {
				continue
			}
			if inside {
				nextX, nextY = nextX+step[0], nextY+step[1]
			}
			met[lines[(nextY+h)%h][(nextX+w)%w]] = true
		}
	}
	for _, id := range treeOf(l).ids() {
		if met[id] && id != pane {
			return id, true
		}
	}
	return 0, false
}

func show(l []api.Cell) string {
	var text strings.Builder
	for _, c := range l {
		text.WriteString("\n\t" + strings.Repeat("  ", max(0, min(c.Depth, 40))))
		switch c.Kind {
		case api.CellRow:
			text.WriteString("R")
		case api.CellCol:
			text.WriteString("C")
		default:
			text.WriteString("P" + strconv.Itoa(c.Pane))
		}
		text.WriteString(" " + strconv.Itoa(c.W) + "x" + strconv.Itoa(c.H) + " at " + strconv.Itoa(c.X) + "," + strconv.Itoa(c.Y))
	}
	return text.String()
}

func wantTree(t *testing.T, what string, got []api.Cell, e api.Errno, want node) {
	t.Helper()
	if e != api.OK || !slices.Equal(got, want.list()) {
		t.Errorf("%s: error %d, list%s\nnot%s", what, e, show(got), show(want.list()))
	}
}

func wantError(t *testing.T, what string, got []api.Cell, e, want api.Errno) {
	t.Helper()
	if e != want || len(got) != 0 {
		t.Errorf("%s: error %d, not %d; list%s", what, e, want, show(got))
	}
}
