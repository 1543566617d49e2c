package layout

import (
	"math"
	"math/rand"
	"slices"
	"testing"

	"mullion/api"
)

// run is a long row of calls, each upon the layout that the last one left, each held against the model.
type run struct {
	t    *testing.T
	r    *rand.Rand
	l    []api.Cell
	next int // the id of the next new pane
	done map[string]int
}

func (r *run) pick(of ...int) int { return of[r.r.Intn(len(of))] }

// pane is mostly one that is there.
func (r *run) pane() int {
	if r.r.Intn(25) == 0 {
		return r.pick(0, -1, r.next, math.MaxInt, math.MinInt)
	}
	ids := treeOf(r.l).ids()
	return ids[r.r.Intn(len(ids))]
}

func (r *run) kind() int {
	if r.r.Intn(25) == 0 {
		return r.pick(0, api.CellPane, 4, -1, math.MaxInt)
	}
	return r.pick(row, col)
}

func (r *run) id() int {
	if r.r.Intn(25) == 0 {
		return r.pick(0, -1, r.pane(), api.MaxNumber+1)
	}
	return r.next
}

func (r *run) number() int {
	switch r.r.Intn(6) {
	case 0:
		return r.pick(0, -1, math.MinInt, math.MaxInt, -api.MaxSide, api.MaxSide, api.MaxSide+1)
	case 1:
		return -r.r.Intn(30)
	}
	return r.r.Intn(40)
}

// side is near to what is there, so that layouts stay narrow enough to have no room now and then.
func (r *run) side(now int) int {
	if r.r.Intn(25) == 0 {
		return r.number()
	}
	return max(1, min(now+r.r.Intn(21)-10, 90))
}

// answered takes what a call answered, what the model answers, and goes on from there.
func (r *run) answered(what string, got []api.Cell, e api.Errno, want []api.Cell, wantE api.Errno) bool {
	r.t.Helper()
	if e != wantE || !slices.Equal(got, want) {
		r.t.Fatalf("%s: error %d, list%s\nnot error %d, list%s\nof%s", what, e, show(got), wantE, show(want), show(r.l))
	}
	if e != api.OK {
		r.done[what+", refused"]++
		return false
	}
	r.done[what]++
	if what != "Resize" && (got[0].W != r.l[0].W || got[0].H != r.l[0].H) {
		r.t.Fatalf("%s: the window is %d x %d, not %d x %d", what, got[0].W, got[0].H, r.l[0].W, r.l[0].H)
	}
	checkTiling(r.t, what, got)
	return true
}

// checkTiling is P4.15: a layout, each place of which lies in just one pane or on a border.
func checkTiling(t *testing.T, what string, l []api.Cell) {
	t.Helper()
	if Check(l) != api.OK || !modelCheck(l) {
		t.Fatalf("%s: no layout:%s", what, show(l))
	}
	panes, borders := 0, 0
	for i, c := range l {
		switch c.Kind {
		case api.CellPane:
			panes += c.W * c.H
		case api.CellRow:
			borders += (len(kidsOf(l, i)) - 1) * c.H
		case api.CellCol:
			borders += (len(kidsOf(l, i)) - 1) * c.W
		}
	}
	free := 0
	for _, line := range painted(l) {
		for _, id := range line {
			if id == 0 {
				free++
			}
		}
	}
	if whole := l[0].W * l[0].H; panes+borders != whole || free != borders {
		t.Fatalf("%s: panes %d, borders %d, %d places in no pane, of %d:%s", what, panes, borders, free, whole, show(l))
	}
}

// cellsOf gives each pane's cell.
func cellsOf(l []api.Cell) map[int]api.Cell {
	cells := map[int]api.Cell{}
	for _, c := range l {
		if c.Kind == api.CellPane {
			cells[c.Pane] = c
		}
	}
	return cells
}

// checkPanes is P4.16: which panes there are, and in their order, but where ids were swapped.
func (r *run) checkPanes(what string, got []api.Cell, want []int) {
	r.t.Helper()
	if !slices.Equal(Panes(got), want) {
		r.t.Fatalf("%s: panes %v, not %v", what, Panes(got), want)
	}
}

func (r *run) checkOthers(what string, got []api.Cell, but []int) {
	r.t.Helper()
	was, is := cellsOf(r.l), cellsOf(got)
	for id, c := range was {
		if !slices.Contains(but, id) && is[id] != c {
			r.t.Fatalf("%s: pane %d was%s\nis%s", what, id, show(r.l), show(got))
		}
	}
}

func (r *run) split() {
	pane, kind, size, before, id := r.pane(), r.kind(), r.number(), r.r.Intn(2) == 0, r.id()
	got, e := Split(r.l, pane, kind, size, before, id)
	want, wantE := modelSplit(r.l, pane, kind, size, before, id)
	if !r.answered("Split", got, e, want, wantE) {
		return
	}
	ids := treeOf(r.l).ids()
	at := slices.Index(ids, pane)
	if !before {
		at++
	}
	r.checkPanes("Split", got, slices.Insert(ids, at, id))
	r.checkOthers("Split", got, []int{pane})
	if !before {
		back, e := Close(got, id)
		if e != api.OK || !slices.Equal(back, r.l) {
			r.t.Fatalf("Split and Close: error %d,%s\nnot%s", e, show(back), show(r.l))
		}
	}
	r.l, r.next = got, r.next+1
}

func (r *run) full() {
	kind, size, before, id := r.kind(), r.number(), r.r.Intn(2) == 0, r.id()
	got, e := Full(r.l, kind, size, before, id)
	want, wantE := modelFull(r.l, kind, size, before, id)
	if !r.answered("Full", got, e, want, wantE) {
		return
	}
	ids := append(treeOf(r.l).ids(), id)
	if before {
		ids = append([]int{id}, treeOf(r.l).ids()...)
	}
	r.checkPanes("Full", got, ids)
	r.l, r.next = got, r.next+1
}

// heirs are the panes in the child that is stretched when a pane is closed.
func heirs(l []api.Cell, pane int) []int {
	for i := range l {
		kids := kidsOf(l, i)
		for k, at := range kids {
			if l[at].Pane != pane {
				continue
			}
			if k == 0 {
				return treeAt(l, kids[1]).ids()
			}
			return treeAt(l, kids[k-1]).ids()
		}
	}
	return nil
}

func (r *run) close() {
	pane := r.pane()
	got, e := Close(r.l, pane)
	want, wantE := modelClose(r.l, pane)
	if !r.answered("Close", got, e, want, wantE) {
		return
	}
	r.checkPanes("Close", got, slices.DeleteFunc(treeOf(r.l).ids(), func(id int) bool { return id == pane }))
	r.checkOthers("Close", got, append(heirs(r.l, pane), pane))
	r.l = got
}

func (r *run) resize() {
	w, h := r.side(r.l[0].W), r.side(r.l[0].H)
	got, e := Resize(r.l, w, h)
	want, wantE := modelResize(r.l, w, h)
	if !r.answered("Resize", got, e, want, wantE) {
		return
	}
	if got[0].W != w || got[0].H != h {
		r.t.Fatalf("Resize to %d x %d:%s", w, h, show(got))
	}
	r.checkPanes("Resize", got, treeOf(r.l).ids())
	r.l = got
}

func (r *run) push() {
	pane, kind, by := r.pane(), r.kind(), r.number()
	got, moved, e := Push(r.l, pane, kind, by)
	want, wantMoved, wantE := modelPush(r.l, pane, kind, by)
	if moved != wantMoved {
		r.t.Fatalf("Push(%d, %d, %d): moved %d, not %d in%s", pane, kind, by, moved, wantMoved, show(r.l))
	}
	if r.answered("Push", got, e, want, wantE) {
		r.checkPanes("Push", got, treeOf(r.l).ids())
		r.l = got
	}
}

func (r *run) set() {
	pane, kind, size := r.pane(), r.kind(), r.number()
	got, e := Set(r.l, pane, kind, size)
	want, wantE := modelSet(r.l, pane, kind, size)
	if r.answered("Set", got, e, want, wantE) {
		r.checkPanes("Set", got, treeOf(r.l).ids())
		r.l = got
	}
}

func (r *run) swap() {
	a, b := r.pane(), r.pane()
	got, e := Swap(r.l, a, b)
	want, wantE := modelSwap(r.l, a, b)
	if !r.answered("Swap", got, e, want, wantE) {
		return
	}
	r.checkOthers("Swap", got, []int{a, b})
	if back, e := Swap(got, a, b); e != api.OK || !slices.Equal(back, r.l) {
		r.t.Fatalf("Swap twice: error %d,%s\nnot%s", e, show(back), show(r.l))
	}
	r.l = got
}

func (r *run) arrange() {
	how, size := r.r.Intn(8)-1, r.number()
	got, e := Arrange(r.l, how, size)
	want, wantE := modelArrange(r.l, how, size)
	if r.answered("Arrange", got, e, want, wantE) {
		r.checkPanes("Arrange", got, treeOf(r.l).ids())
		r.l = got
	}
}

func (r *run) look() {
	pane, by, side := r.pane(), r.number(), r.r.Intn(6)
	id, e := Next(r.l, pane, by)
	if want, wantE := modelNext(r.l, pane, by); id != want || e != wantE {
		r.t.Fatalf("Next(%d, %d): %d, error %d, not %d", pane, by, id, e, want)
	}
	id, ok := Beside(r.l, pane, side)
	if want, met := modelBeside(r.l, pane, side); id != want || ok != met {
		r.t.Fatalf("Beside(%d, %d): %d, %v, not %d in%s", pane, side, id, ok, want, show(r.l))
	}
	w, h, e := Least(r.l)
	if wantW, wantH, wantE := modelLeast(r.l); w != wantW || h != wantH || e != wantE {
		r.t.Fatalf("Least: %d x %d, error %d, not %d x %d", w, h, e, wantW, wantH)
	}
	x, y := r.r.Intn(r.l[0].W), r.r.Intn(r.l[0].H)
	id, ok = At(r.l, x, y)
	if want := painted(r.l)[y][x]; id != want || ok != (want != 0) {
		r.t.Fatalf("At(%d, %d): %d, %v, not %d in%s", x, y, id, ok, want, show(r.l))
	}
}

func (r *run) step() {
	switch n := r.r.Intn(20); {
	case n < 6:
		r.split()
	case n < 8:
		r.full()
	case n < 10:
		r.close()
	case n < 12:
		r.resize()
	case n < 14:
		r.push()
	case n < 16:
		r.set()
	case n < 17:
		r.swap()
	case n < 18 && r.r.Intn(4) == 0:
		r.arrange()
	default:
		r.look()
	}
}

func startRun(t *testing.T, seed int64, done map[string]int) *run {
	r := &run{t: t, r: rand.New(rand.NewSource(seed)), next: 2, done: done}
	l, e := New(1+r.r.Intn(90), 1+r.r.Intn(60), 1)
	if e != api.OK {
		t.Fatal(e)
	}
	checkTiling(t, "New", l)
	r.l = l
	return r
}

// P4.15, P4.16 and P4.17 are asked behind each call; the model is asked for all the others.
func TestP415P416P417LongRuns(t *testing.T) {
	done, most := map[string]int{}, 0
	for seed := range int64(60) {
		r := startRun(t, seed, done)
		for range 400 {
			r.step()
			most = max(most, len(Panes(r.l)))
		}
	}
	for _, what := range []string{"Split", "Full", "Close", "Resize", "Push", "Set", "Swap", "Arrange"} {
		if done[what] < 50 || done[what+", refused"] < 20 {
			t.Errorf("%s: only %d calls that were OK, %d that were not", what, done[what], done[what+", refused"])
		}
	}
	if most < api.MaxPanes {
		t.Errorf("never more than %d panes", most)
	}
}

// Windows of the greatest sides, where all panes are near.
func TestP415GreatWindows(t *testing.T) {
	for seed := range int64(4) {
		r := startRun(t, 1000+seed, map[string]int{})
		l, e := Resize(r.l, api.MaxSide, api.MaxSide)
		if e != api.OK {
			t.Fatal(e)
		}
		r.l = l
		for range 60 {
			r.split()
			r.full()
			r.push()
		}
		for _, side := range []int{api.MaxSide, 200, api.MaxSide} {
			got, e := Resize(r.l, side, side)
			want, wantE := modelResize(r.l, side, side)
			if r.answered("Resize", got, e, want, wantE) {
				r.l = got
			}
		}
	}
}
