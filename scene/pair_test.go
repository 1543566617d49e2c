package scene

import (
	"fmt"
	"slices"
	"strings"
	"testing"

	"mullion/api"
	"mullion/layout"
	"mullion/paint"
	"mullion/plan"
)

// shows asks the program, and holds what it answers against the model.
func shows(t testing.TB, q asked) api.Picture {
	t.Helper()
	got, err := Of(q.w, q.shown, q.status, q.width, q.height)
	if err != api.OK {
		t.Fatalf("Of answers %d, with a stage of %d x %d, for %s", err, q.width, q.height, q.told())
	}
	if err := paint.Check(got); err != api.OK {
		t.Fatalf("no picture, but %s, for %s", seen(got), q.told())
	}
	if want := q.picture(); !paint.Same(got, want) {
		t.Fatalf("%s\nand not %s\nfor %s", seen(got), seen(want), q.told())
	}
	return got
}

// told is a question as a text.
func (q asked) told() string {
	text := fmt.Sprintf("%v active %d zoom %v status %q", q.w.Cells, q.w.Active, q.w.Zoom, q.status)
	for _, p := range q.shown {
		text += "\n" + seen(p)
	}
	return text
}

// drawn is a picture's letters, row by row.
func drawn(p api.Picture) []string {
	var rows []string
	for y := range p.H {
		rows = append(rows, textOf(p.Places[p.W*y:p.W*y+p.W]))
	}
	return rows
}

func textOf(row []api.Glyph) string {
	text := ""
	for _, g := range row {
		text += g.Text
	}
	return text
}

// seen is all that a picture holds, as a text.
func seen(p api.Picture) string {
	if len(p.Places) != p.W*p.H || p.W > 100 {
		return fmt.Sprintf("%d x %d of %d places", p.W, p.H, len(p.Places))
	}
	text := fmt.Sprintf("%d x %d, cursor (%d, %d) hidden %v, %q:", p.W, p.H, p.X, p.Y, p.Hidden, p.Title)
	for y, row := range drawn(p) {
		text += fmt.Sprintf("\n%q", row)
		for x, g := range p.Places[p.W*y : p.W*y+p.W] {
			if g.Attr != (api.Attr{}) {
				text += fmt.Sprintf(" %d:%v", x, g.Attr)
			}
		}
	}
	return text
}

// windowOf is a window whose layout is written as a plan, without its sum.
func windowOf(t testing.TB, text string, active int) api.Window {
	t.Helper()
	cells, err := plan.Parse(fmt.Sprintf("%04x,%s", plan.Sum(text), text))
	if err != api.OK {
		t.Fatalf("no plan: %q", text)
	}
	return api.Window{Id: 1, Name: "sh", Cells: cells, Active: active}
}

func zoomed(w api.Window) api.Window {
	w.Zoom = true
	return w
}

// of is a picture of rows that are written down letter by letter; behind a letter of width 2 an underline stands for its other place.
func of(rows ...string) api.Picture {
	p := api.Picture{W: len([]rune(rows[0])), H: len(rows)}
	for _, row := range rows {
		if len([]rune(row)) != p.W {
			panic("a row of another width: " + row)
		}
		for _, letter := range row {
			g := api.Glyph{Text: string(letter), Width: 1}
			if letter >= 0x3000 {
				g.Width = 2
			} else if letter == '_' {
				g = api.Glyph{}
			}
			p.Places = append(p.Places, g)
		}
	}
	return p
}

// with is a picture whose places all have that Attr.
func with(p api.Picture, a api.Attr) api.Picture {
	p.Places = slices.Clone(p.Places)
	for i := range p.Places {
		p.Places[i].Attr = a
	}
	return p
}

// cursor is a picture with its cursor at a place.
func cursor(p api.Picture, x, y int, hidden bool) api.Picture {
	p.X, p.Y, p.Hidden = x, y, hidden
	return p
}

// filled is one picture for each pane, of its cell's size, that holds the last digit of its id everywhere.
func filled(w api.Window) []api.Picture {
	var list []api.Picture
	for _, c := range w.Cells {
		if c.Kind == api.CellPane {
			list = append(list, filling(c.Pane, c.W, c.H))
		}
	}
	return list
}

func filling(pane, w, h int) api.Picture {
	return of(slices.Repeat([]string{strings.Repeat(fmt.Sprint(pane%10), w)}, h)...)
}

// draws holds the letters of what is shown against rows, beside what the model says of all. The status text is `ok`.
func draws(t testing.TB, w api.Window, shown []api.Picture, width, height int, want ...string) api.Picture {
	t.Helper()
	p := shows(t, asked{w, shown, "ok", width, height})
	if got := drawn(p); !slices.Equal(got, want) {
		t.Errorf("it shows\n%s\nand not\n%s", strings.Join(got, "\n"), strings.Join(want, "\n"))
	}
	return p
}

// marked is where the places of a picture lie whose Attr is that.
func marked(p api.Picture, a api.Attr) []string {
	rows := make([]string, p.H)
	for i, g := range p.Places {
		mark := "."
		if g.Attr == a {
			mark = "x"
		}
		rows[i/p.W] += mark
	}
	return rows
}

func wantMarked(t testing.TB, p api.Picture, a api.Attr, want ...string) {
	t.Helper()
	if got := marked(p, a); !slices.Equal(got, want) {
		t.Errorf("%v has\n%s\nand not\n%s", a, strings.Join(got, "\n"), strings.Join(want, "\n"))
	}
}

// refuses holds an error against what is answered: beside it there is nothing.
func refuses(t testing.TB, q asked, want api.Errno) {
	t.Helper()
	got, err := Of(q.w, q.shown, q.status, q.width, q.height)
	if err != want || got.Places != nil || got.W != 0 || got.H != 0 || got.X != 0 || got.Y != 0 || got.Hidden || got.Title != "" {
		t.Errorf("Of answers %d, and not %d, with %s", err, want, seen(got))
	}
}

// everyLayout are all layouts of that size with up to so many panes, as splits make them.
func everyLayout(w, h, panes int) [][]api.Cell {
	first, _ := layout.New(w, h, 1)
	all, latest := [][]api.Cell{first}, [][]api.Cell{first}
	for id := 2; id <= panes; id++ {
		known := map[string]int{}
		var next [][]api.Cell
		for _, cells := range latest {
			for _, more := range everySplit(cells, id) {
				if key := outline(more); known[key] == 0 {
					known[key] = 1
					next = append(next, more)
				}
			}
		}
		all, latest = append(all, next...), next
	}
	return all
}

func everySplit(cells []api.Cell, id int) [][]api.Cell {
	var list [][]api.Cell
	for _, c := range cells {
		if c.Kind != api.CellPane {
			continue
		}
		for size := 1; size <= c.W-2; size++ {
			more, _ := layout.Split(cells, c.Pane, api.CellRow, size, false, id)
			list = append(list, more)
		}
		for size := 1; size <= c.H-2; size++ {
			more, _ := layout.Split(cells, c.Pane, api.CellCol, size, false, id)
			list = append(list, more)
		}
	}
	return list
}

// outline is a layout without its panes' ids.
func outline(cells []api.Cell) string {
	cells = slices.Clone(cells)
	for i := range cells {
		cells[i].Pane = 0
	}
	return fmt.Sprint(cells)
}
