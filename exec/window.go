package exec

import (
	"mullion/api"
	"mullion/octal"
	"mullion/plan"
	"mullion/target"
)

func (j *job) newWindow() {
	at := j.find("t", api.MeanIndex)
	if j.failed() {
		return
	}
	p, err := j.st.NewWindow(at.Session, at.Index, j.value("n"), !j.has("d"))
	if err != api.OK {
		j.noteCommand(err)
		return
	}
	j.tell(p)
}

func (j *job) killWindow() {
	p := j.find("t", api.MeanWindow)
	if j.failed() {
		return
	}
	if !j.has("a") {
		j.noteCommand(j.st.CloseWindow(p.Window))
		return
	}
	links := j.session(p.Session).Links
	for _, w := range j.state.Windows {
		if w.Id != p.Window && countLinks(links, w.Id) > 0 {
			j.noteCommand(j.st.CloseWindow(w.Id))
		}
	}
}

// countLinks tells how many of these links are to that window.
func countLinks(links []api.Link, window int) int {
	n := 0
	for _, l := range links {
		if l.Window == window {
			n++
		}
	}
	return n
}

func (j *job) renameWindow() {
	p := j.find("t", api.MeanWindow)
	if !j.failed() {
		j.noteCommand(j.st.RenameWindow(p.Window, j.wordOr(0, "")))
	}
}

func (j *job) selectWindow() {
	var p api.Place
	switch {
	case j.has("l"):
		p = j.inSession("!")
	case j.has("n"):
		p = j.inSession("+")
	case j.has("p"):
		p = j.inSession("-")
	default:
		p = j.find("t", api.MeanWindow)
	}
	if !j.failed() {
		j.noteCommand(j.st.Choose(p.Session, p.Index))
	}
}

// inSession is what a window part means in the session that -t means.
func (j *job) inSession(part string) api.Place {
	session := j.find("t", api.MeanSession).Session
	p, err := target.Find(j.state, j.here, octal.PutId('$', session)+":"+part, api.MeanWindow)
	j.note(err, part)
	return p
}

func (j *job) linkWindow() {
	from, to := j.find("s", api.MeanWindow), j.find("t", api.MeanIndex)
	if j.failed() {
		return
	}
	_, err := j.st.Link(to.Session, to.Index, from.Window, !j.has("d"))
	j.noteCommand(err)
}

func (j *job) unlinkWindow() {
	p := j.find("t", api.MeanWindow)
	if j.failed() {
		return
	}
	links := 0
	for _, x := range j.state.Sessions {
		links += countLinks(x.Links, p.Window)
	}
	if links == 1 && !j.has("k") {
		j.noteCommand(api.ErrOnly)
		return
	}
	j.noteCommand(j.st.Unlink(p.Session, p.Index))
}

func (j *job) moveWindow() {
	from, to := j.find("s", api.MeanWindow), j.find("t", api.MeanIndex)
	if j.failed() {
		return
	}
	index, err := j.st.Move(from.Session, from.Index, to.Session, to.Index)
	if err != api.OK {
		j.noteCommand(err)
		return
	}
	if !j.has("d") {
		// This can't fail: the link has just been moved there.
		j.noteCommand(j.st.Choose(to.Session, index))
	}
}

func (j *job) swapWindow() {
	a, b := j.find("s", api.MeanWindow), j.find("t", api.MeanWindow)
	if !j.failed() {
		j.noteCommand(j.st.Exchange(a.Session, a.Index, b.Session, b.Index))
	}
}

func (j *job) resizeWindow() {
	p := j.find("t", api.MeanWindow)
	if j.failed() {
		return
	}
	whole := j.window(p.Window).Cells[0]
	w, h := j.number("x", whole.W), j.number("y", whole.H)
	if !j.failed() {
		j.noteCommand(j.st.Resize(p.Window, w, h))
	}
}

func (j *job) selectLayout() {
	p := j.find("t", api.MeanWindow)
	word := j.wordOr(0, "")
	how, ok := arrangementOf(word)
	if !ok {
		j.layPlan(p.Window, word)
		return
	}
	size := j.wordNumber(1, 0)
	if !j.failed() {
		j.noteCommand(j.st.Arrange(p.Window, how, size))
	}
}

// arrangementOf is the arrangement of that name; false: there is none.
func arrangementOf(name string) (int, bool) {
	switch name {
	case "even-horizontal":
		return api.ArrEvenRow, true
	case "even-vertical":
		return api.ArrEvenCol, true
	case "main-horizontal":
		return api.ArrMainRow, true
	case "main-vertical":
		return api.ArrMainCol, true
	case "tiled":
		return api.ArrTiled, true
	}
	return 0, false
}

// layPlan gives a window the layout that a plan's text says.
func (j *job) layPlan(window int, text string) {
	if len(j.command.Words) > 1 {
		j.noteCommand(api.ErrCount)
	}
	cells, err := plan.Parse(text)
	j.note(err, text)
	if !j.failed() {
		j.noteCommand(j.st.Lay(window, cells))
	}
}
