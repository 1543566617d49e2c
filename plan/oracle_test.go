package plan

import (
	"fmt"
	"math/big"
	"math/rand"
	"regexp"
	"slices"
	"strings"
	"testing"

	"mullion/api"
	"mullion/layout"
)

// The tests' own plans: a writer that goes by the tree and not by the list, a
// grammar that reduces a body step by step to one letter, and a reader of tokens.

// partsOf gives the places of a cell's parts in the list.
func partsOf(l []api.Cell, at int) []int {
	var parts []int
	for i := at + 1; i < len(l) && l[i].Depth > l[at].Depth; i++ {
		if l[i].Depth == l[at].Depth+1 {
			parts = append(parts, i)
		}
	}
	return parts
}

func wantBody(l []api.Cell, at int) string {
	c := l[at]
	box := fmt.Sprintf("%dx%d,%d,%d", c.W, c.H, c.X, c.Y)
	if c.Kind == api.CellPane {
		return fmt.Sprintf("%s,%d", box, c.Pane)
	}
	var bodies []string
	for _, i := range partsOf(l, at) {
		bodies = append(bodies, wantBody(l, i))
	}
	if c.Kind == api.CellRow {
		return box + "{" + strings.Join(bodies, ",") + "}"
	}
	return box + "[" + strings.Join(bodies, ",") + "]"
}

// wantSum goes digit by digit: a sum is a text of 16 binary digits whose last one is laid ahead of the others.
func wantSum(s string) int {
	sum := strings.Repeat("0", 16)
	for _, b := range []byte(s) {
		turned := new(big.Int)
		turned.SetString(sum[15:]+sum[:15], 2)
		turned.Add(turned, big.NewInt(int64(b)))
		digits := fmt.Sprintf("%032b", turned)
		sum = digits[len(digits)-16:]
	}
	n := new(big.Int)
	n.SetString(sum, 2)
	return int(n.Int64())
}

// summed puts the right sum ahead of a body, whatever it is.
func summed(body string) string { return fmt.Sprintf("%04x,%s", wantSum(body), body) }

const (
	aNumber = `(?:0|[1-9][0-9]*)`
	aBox    = aNumber + `x` + aNumber + `,` + aNumber + `,` + aNumber
)

var (
	aPane    = regexp.MustCompile(aBox + `,` + aNumber)
	aSplit   = regexp.MustCompile(aBox + `(?:\{P(?:,P)*\}|\[P(?:,P)*\])`)
	anyDigit = regexp.MustCompile(`[0-9]+`)
	aToken   = regexp.MustCompile(`([0-9]+)x([0-9]+),([0-9]+),([0-9]+)(?:,([0-9]+)|(\{)|(\[))|[\]}]`)
)

// isBody takes away panes, then rows and columns of what was taken away, till there is nothing more to take.
func isBody(s string) bool {
	if strings.Contains(s, "P") {
		return false
	}
	greatest := big.NewInt(api.MaxNumber)
	for _, digits := range anyDigit.FindAllString(s, -1) {
		n, _ := new(big.Int).SetString(digits, 10)
		if n.Cmp(greatest) > 0 {
			return false
		}
	}
	s = aPane.ReplaceAllString(s, "P")
	for {
		less := aSplit.ReplaceAllString(s, "P")
		if less == s {
			return s == "P"
		}
		s = less
	}
}

// wantCells reads a text that isBody says yes to.
func wantCells(body string) []api.Cell {
	var l []api.Cell
	depth := 0
	for _, m := range aToken.FindAllStringSubmatch(body, -1) {
		if m[1] == "" {
			depth--
			continue
		}
		c := api.Cell{Depth: depth, Kind: api.CellPane}
		fmt.Sscan(m[1]+" "+m[2]+" "+m[3]+" "+m[4], &c.W, &c.H, &c.X, &c.Y)
		switch {
		case m[6] != "":
			c.Kind = api.CellRow
			depth++
		case m[7] != "":
			c.Kind = api.CellCol
			depth++
		default:
			fmt.Sscan(m[5], &c.Pane)
		}
		l = append(l, c)
	}
	return l
}

// wantParse is chapter 5's PL3, over the grammar.
func wantParse(s string) ([]api.Cell, api.Errno) {
	if len(s) > 2048 {
		return nil, api.ErrLong
	}
	if !regexp.MustCompile(`^[0-9a-f]{4},`).MatchString(s) {
		return nil, api.ErrPlan
	}
	body := s[5:]
	if s != summed(body) {
		return nil, api.ErrSum
	}
	if !isBody(body) {
		return nil, api.ErrPlan
	}
	l := wantCells(body)
	if layout.Check(l) != api.OK {
		return nil, api.ErrLayout
	}
	return l, api.OK
}

func checkParse(t *testing.T, s string) {
	t.Helper()
	got, e := Parse(s)
	want, wantE := wantParse(s)
	if e != wantE || !slices.Equal(got, want) || e != api.OK && got != nil {
		t.Fatalf("Parse(%q): %v, error %d, not %v, error %d", s, got, e, want, wantE)
	}
}

func good(t *testing.T) func(l []api.Cell, e api.Errno) []api.Cell {
	return func(l []api.Cell, e api.Errno) []api.Cell {
		t.Helper()
		if e != api.OK {
			t.Fatalf("no layout to begin with: error %d", e)
		}
		return l
	}
}

const (
	row = api.CellRow
	col = api.CellCol
)

// sample is a layout with rows in columns in a row.
func sample(t *testing.T) []api.Cell {
	ok := good(t)
	l := ok(layout.New(80, 24, 1))
	l = ok(layout.Split(l, 1, row, 0, false, 2))
	l = ok(layout.Split(l, 2, col, 5, false, 3))
	l = ok(layout.Split(l, 2, row, 9, false, 14))
	return ok(layout.Split(l, 3, row, 0, true, 5))
}

// manyPanes is a row of so many panes, each one wide, at the greatest numbers.
func manyPanes(n int) []api.Cell {
	l := []api.Cell{{Kind: row, W: 2*n - 1, H: 5}}
	for i := range n {
		l = append(l, api.Cell{Depth: 1, Kind: api.CellPane, X: 2 * i, W: 1, H: 5, Pane: api.MaxNumber - i})
	}
	return l
}

// staircase is as deep as a layout can be, in the greatest window: each cut leaves one pane and what is cut next.
func staircase(t *testing.T) []api.Cell {
	ok := good(t)
	l := ok(layout.New(api.MaxSide, api.MaxSide, api.MaxNumber))
	for i := 1; i < api.MaxPanes; i++ {
		last := layout.Panes(l)[i-1]
		kind, side := row, l[len(l)-1].W
		if i%2 == 0 {
			kind, side = col, l[len(l)-1].H
		}
		// The first cut is wide, so that all places behind it have three digits.
		size := side - 2
		if i <= 2 {
			size = side - 101
		}
		l = ok(layout.Split(l, last, kind, size, false, api.MaxNumber-i))
	}
	return l
}

// run gives the layouts that a long row of calls goes through.
func run(t *testing.T, seed int64, calls int) [][]api.Cell {
	r := rand.New(rand.NewSource(seed))
	side := func() int { return 1 + r.Intn([]int{5, 40, 200, api.MaxSide}[r.Intn(4)]) }
	l := good(t)(layout.New(side(), side(), 1+r.Intn(api.MaxNumber)))
	all := [][]api.Cell{l}
	for range calls {
		panes := layout.Panes(l)
		pane, other := panes[r.Intn(len(panes))], panes[r.Intn(len(panes))]
		kind, size, before := row+r.Intn(2), r.Intn(30)-3, r.Intn(2) == 0
		id := 1 + r.Intn([]int{50, api.MaxNumber}[r.Intn(2)])
		next, e := l, api.OK
		switch r.Intn(10) {
		case 0, 1, 2:
			next, e = layout.Split(l, pane, kind, size, before, id)
		case 3:
			next, e = layout.Full(l, kind, size, before, id)
		case 4:
			next, e = layout.Close(l, pane)
		case 5:
			next, e = layout.Resize(l, side(), side())
		case 6:
			next, _, e = layout.Push(l, pane, kind, size-12)
		case 7:
			next, e = layout.Set(l, pane, kind, size)
		case 8:
			next, e = layout.Swap(l, pane, other)
		case 9:
			if r.Intn(4) == 0 {
				next, e = layout.Arrange(l, 1+r.Intn(5), size)
			}
		}
		if e == api.OK {
			l = next
			all = append(all, l)
		}
	}
	return all
}

// manyLayouts is each form that the document names, and what several runs went through.
func manyLayouts(t *testing.T) [][]api.Cell {
	all := [][]api.Cell{sample(t), manyPanes(2), manyPanes(api.MaxPanes), staircase(t)}
	for seed := range int64(30) {
		all = append(all, run(t, seed, 120)...)
	}
	return all
}

func isDeep(l []api.Cell) bool {
	return slices.ContainsFunc(l, func(c api.Cell) bool { return c.Depth > 3 })
}

// TestOracleRuns: the runs must come by every kind of layout, or the tests that lean on them say little.
func TestOracleRuns(t *testing.T) {
	var single, rows, cols, deep, full int
	for _, l := range manyLayouts(t) {
		switch {
		case len(l) == 1:
			single++
		case l[0].Kind == row:
			rows++
		default:
			cols++
		}
		if isDeep(l) {
			deep++
		}
		if len(layout.Panes(l)) == api.MaxPanes {
			full++
		}
	}
	if single < 20 || rows < 200 || cols < 200 || deep < 100 || full < 2 {
		t.Errorf("%d of one pane, %d rows, %d columns, %d deep ones, %d full ones", single, rows, cols, deep, full)
	}
}
