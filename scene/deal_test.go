package scene

import (
	"math/rand"

	"mullion/api"
	"mullion/layout"
)

// dealer makes windows and pictures by chance.
type dealer struct{ *rand.Rand }

func dealt(seed int) dealer { return dealer{rand.New(rand.NewSource(int64(seed)))} }

func (d dealer) of(list ...string) string { return list[d.Intn(len(list))] }

func (d dealer) attr() api.Attr {
	switch d.Intn(4) {
	case 0:
		return api.Attr{Fore: d.Intn(257), Marks: d.Intn(256)}
	case 1:
		return api.Attr{Back: 257 + d.Intn(1<<24)}
	}
	return api.Attr{}
}

// picture is one of any letters, about every third one of width 2.
func (d dealer) picture(w, h int) api.Picture {
	p := api.Picture{W: w, H: h, X: d.Intn(w), Y: d.Intn(h), Hidden: d.Intn(4) == 0, Title: d.of("", "sh", "vi x", "\xff", "t")}
	for range h {
		for x := 0; x < w; {
			a := d.attr()
			if w-x > 1 && d.Intn(3) == 0 {
				p.Places = append(p.Places, api.Glyph{Text: d.of("\u4e00", "\uac00", "\U0001f600"), Width: 2, Attr: a}, api.Glyph{Attr: a})
				x += 2
				continue
			}
			p.Places = append(p.Places, api.Glyph{Text: d.of("a", "b", "~", "\u00e9", "\u2502", "\u00b7", " "), Width: 1, Attr: a})
			x++
		}
	}
	return p
}

// window is one of up to so many panes, split, closed, pushed and swapped by chance.
func (d dealer) window(w, h, panes int) api.Window {
	cells, _ := layout.New(w, h, 1)
	for id := 2; id < 3*panes; id++ {
		ids := layout.Panes(cells)
		pane, kind := ids[d.Intn(len(ids))], api.CellRow+d.Intn(2)
		var next []api.Cell
		err := api.ErrFull
		switch d.Intn(12) {
		case 0:
			next, err = layout.Close(cells, pane)
		case 1:
			next, _, err = layout.Push(cells, pane, kind, d.Intn(9)-4)
		case 2:
			next, err = layout.Swap(cells, pane, ids[0])
		case 3:
			if len(ids) < panes {
				next, err = layout.Full(cells, kind, d.Intn(3), d.Intn(2) == 0, id)
			}
		default:
			if len(ids) < panes {
				next, err = layout.Split(cells, pane, kind, d.Intn(5), d.Intn(2) == 0, id)
			}
		}
		if err == api.OK {
			cells = next
		}
	}
	ids := layout.Panes(cells)
	return api.Window{Id: 1, Name: "sh", Cells: cells, Active: ids[d.Intn(len(ids))], Zoom: d.Intn(4) == 0}
}

// pictures are one for each pane, mostly of its size: that of its cell, or of the window.
func (d dealer) pictures(w api.Window) []api.Picture {
	var list []api.Picture
	for _, c := range w.Cells {
		if c.Kind != api.CellPane {
			continue
		}
		if w.Zoom && c.Pane == w.Active {
			c = w.Cells[0]
		}
		if d.Intn(3) == 0 {
			c.W = max(1, c.W+d.Intn(5)-2)
			c.H = max(1, c.H+d.Intn(5)-2)
		}
		list = append(list, d.picture(c.W, c.H))
	}
	return list
}

func (d dealer) status() string {
	text := ""
	for range d.Intn(12) {
		text += d.of("a", "b", " ", "[", "\u4e00", "\uff01", "\u0301", "\xff", "\xe4\xb8", "\x07", "\u0085", "\ufffd", "?")
	}
	return text
}

// asked is a window, and a stage that is mostly about as great as it.
func (d dealer) asked() asked {
	w := d.window(1+d.Intn(16), 1+d.Intn(12), 1+d.Intn(9))
	q := asked{w, d.pictures(w), d.status(), w.Cells[0].W + d.Intn(7) - 3, w.Cells[0].H + d.Intn(7) - 2}
	if d.Intn(5) == 0 {
		q.width, q.height = d.Intn(25), d.Intn(20)
	}
	q.width, q.height = max(1, q.width), max(1, q.height)
	return q
}
