package exec

import (
	"slices"
	"strings"

	"mullion/api"
	"mullion/layout"
)

func (j *job) splitWindow() {
	p := j.find("t", api.MeanPane)
	size := j.number("l", 0)
	if j.failed() {
		return
	}
	pane, err := j.st.Split(p.Pane, j.kind(), size, j.has("b"), !j.has("d"))
	if err != api.OK {
		j.noteCommand(err)
		return
	}
	p.Pane = pane
	j.tell(p)
}

// kind is what a pane and the one that comes beside it stand in.
func (j *job) kind() int {
	if j.has("h") {
		return api.CellRow
	}
	return api.CellCol
}

func (j *job) joinPane() {
	from, to := j.find("s", api.MeanPane), j.find("t", api.MeanPane)
	size := j.number("l", 0)
	if !j.failed() {
		j.noteCommand(j.st.Join(from.Pane, to.Pane, j.kind(), size, j.has("b"), !j.has("d")))
	}
}

func (j *job) breakPane() {
	from, to := j.find("s", api.MeanPane), j.find("t", api.MeanIndex)
	if j.failed() {
		return
	}
	p, err := j.st.Break(from.Pane, to.Session, to.Index, j.value("n"), !j.has("d"))
	if err != api.OK {
		j.noteCommand(err)
		return
	}
	j.tell(p)
}

func (j *job) killPane() {
	p := j.find("t", api.MeanPane)
	if j.failed() {
		return
	}
	others := j.has("a")
	panes := layout.Panes(j.window(p.Window).Cells)
	slices.Sort(panes)
	for _, pane := range panes {
		if (pane != p.Pane) == others {
			j.noteCommand(j.st.ClosePane(pane))
		}
	}
}

// A direction is what a flag that points there stands for: the side on which a
// pane is sought; the kind of cells whose borders are moved that way, and by
// how many for each line.
type direction struct {
	letter           string
	side, kind, sign int
}

var directions = [4]direction{
	{"L", api.SideLeft, api.CellRow, -1},
	{"R", api.SideRight, api.CellRow, 1},
	{"U", api.SideUp, api.CellCol, -1},
	{"D", api.SideDown, api.CellCol, 1},
}

// direction is the first one whose flag is given; false: none is.
func (j *job) direction() (direction, bool) {
	for _, d := range directions {
		if j.has(d.letter) {
			return d, true
		}
	}
	return direction{}, false
}

func (j *job) selectPane() {
	p := j.find("t", api.MeanPane)
	w := j.window(p.Window)
	pane, flag := p.Pane, ""
	if d, ok := j.direction(); ok {
		flag = d.letter
		pane, _ = layout.Beside(w.Cells, p.Pane, d.side)
	} else if j.has("l") {
		flag = "l"
		pane = w.Last
	}
	if pane == 0 {
		j.note(api.ErrTarget, flag)
	}
	if !j.failed() {
		j.noteCommand(j.st.ChoosePane(pane))
	}
}

func (j *job) resizePane() {
	p := j.find("t", api.MeanPane)
	if j.has("Z") {
		j.zoom(p.Pane)
		return
	}
	n := j.wordNumber(0, 1)
	w, h := j.number("x", 0), j.number("y", 0)
	if j.failed() {
		return
	}
	j.keep()
	// Where one of these fails, what the next ones do is undone with the rest.
	if d, ok := j.direction(); ok {
		j.noteCommand(j.st.Push(p.Pane, d.kind, d.sign*n))
	}
	if j.has("x") {
		j.noteCommand(j.st.Set(p.Pane, api.CellRow, w))
	}
	if j.has("y") {
		j.noteCommand(j.st.Set(p.Pane, api.CellCol, h))
	}
}

func (j *job) zoom(pane int) {
	if !j.failed() {
		j.noteCommand(j.st.Zoom(pane))
	}
}

func (j *job) swapPane() {
	a, b := j.find("s", api.MeanPane), j.find("t", api.MeanPane)
	if !j.failed() {
		j.noteCommand(j.st.Swap(a.Pane, b.Pane))
	}
}

func (j *job) sendKeys() {
	p := j.find("t", api.MeanPane)
	if j.failed() {
		return
	}
	var text strings.Builder
	plain := j.has("l")
	for _, word := range j.command.Words {
		if b, ok := keyByte(word); ok && !plain {
			text.WriteByte(b)
		} else {
			text.WriteString(word)
		}
	}
	j.noteCommand(j.st.Type(p.Pane, text.String()))
}

// keyByte is the byte that a key's name stands for; false: the word is no key's name.
func keyByte(word string) (byte, bool) {
	switch word {
	case "Enter":
		return 13, true
	case "Space":
		return 32, true
	case "Tab":
		return 9, true
	case "Escape":
		return 27, true
	case "BSpace":
		return 127, true
	}
	if len(word) == 3 && word[:2] == "C-" && word[2] >= 'a' && word[2] <= 'z' {
		return word[2] - 'a' + 1, true
	}
	return 0, false
}
