package target

import (
	"slices"
	"strings"

	"mullion/api"
	"mullion/octal"
)

// A view is a valid state as a client sees it that is in the session here.
type view struct {
	api.State
	here int
}

func (v view) find(text string, mean int) (api.Place, api.Errno) {
	if pane, ok := octal.Id('%', text); ok {
		return v.homeOfPane(pane)
	}
	if window, ok := octal.Id('@', text); ok {
		return v.home(window)
	}
	if session, behind, ok := strings.Cut(text, ":"); ok {
		return v.inSession(session, behind, mean)
	}
	if isOfHere(text, mean) {
		return v.inSession("", text, mean)
	}
	return v.byTrials(text, mean)
}

// isOfHere tells whether a text without a colon can speak of the client's session alone.
func isOfHere(text string, mean int) bool {
	_, number := indexIn(text)
	return text == "" || mean == api.MeanPane && strings.Contains(text, ".") || mean == api.MeanIndex && number
}

// byTrials takes a text that does not tell what it is a part of: the narrowest
// thing that it may mean comes first; where it means none, the next wider one.
func (v view) byTrials(text string, mean int) (api.Place, api.Errno) {
	x, err := v.session("")
	inOne := err == api.OK
	switch {
	case inOne && mean == api.MeanPane:
		if p, err := v.place(x, "", text); err != api.ErrTarget {
			return p, err
		}
		fallthrough
	case inOne && mean == api.MeanWindow:
		if p, err := v.place(x, text, ""); err != api.ErrTarget {
			return p, err
		}
		fallthrough
	default:
		return v.inSession(text, "", mean)
	}
}

// inSession takes a session part, and what stands behind the colon.
func (v view) inSession(part, behind string, mean int) (api.Place, api.Errno) {
	x, err := v.session(part)
	if err != api.OK {
		return api.Place{}, err
	}
	switch mean {
	case api.MeanIndex:
		return v.index(x, behind)
	case api.MeanPane:
		window, pane, _ := strings.Cut(behind, ".")
		return v.place(x, window, pane)
	}
	return v.place(x, behind, "")
}

// index takes what stands behind the colon where an index is asked for, which may be free.
func (v view) index(x api.Session, part string) (api.Place, api.Errno) {
	if part == "" {
		return api.Place{Session: x.Id, Index: noIndex}, api.OK
	}
	if n, ok := indexIn(part); ok && !slices.ContainsFunc(x.Links, isAt(n)) {
		return api.Place{Session: x.Id, Index: n}, api.OK
	}
	return v.place(x, part, "")
}

// place takes a window part and a pane part.
func (v view) place(x api.Session, windowPart, panePart string) (api.Place, api.Errno) {
	l, err := v.link(x, windowPart)
	if err != api.OK {
		return api.Place{}, err
	}
	pane, err := paneOf(v.window(l.Window), panePart)
	if err != api.OK {
		return api.Place{}, err
	}
	return api.Place{Session: x.Id, Index: l.Index, Window: l.Window, Pane: pane}, api.OK
}

func (v view) home(window int) (api.Place, api.Errno) {
	shows := func(x api.Session) bool { return slices.ContainsFunc(x.Links, isTo(window)) }
	at := slices.IndexFunc(v.Sessions, func(x api.Session) bool { return x.Id == v.here && shows(x) })
	if at < 0 {
		at = slices.IndexFunc(v.Sessions, shows)
	}
	if at < 0 {
		return api.Place{}, api.ErrTarget
	}
	x := v.Sessions[at]
	l := x.Links[slices.IndexFunc(x.Links, isTo(window))]
	return api.Place{Session: x.Id, Index: l.Index, Window: window, Pane: v.window(window).Active}, api.OK
}

func (v view) homeOfPane(pane int) (api.Place, api.Errno) {
	at := slices.IndexFunc(v.Windows, func(w api.Window) bool { return hasPane(w, pane) })
	if at < 0 {
		return api.Place{}, api.ErrTarget
	}
	p, err := v.home(v.Windows[at].Id)
	p.Pane = pane
	return p, err
}

// window gives the window with this id, which must be there.
func (v view) window(id int) api.Window {
	return v.Windows[slices.IndexFunc(v.Windows, func(w api.Window) bool { return w.Id == id })]
}

// indexIn reads an index that may be; false: the text is none.
func indexIn(text string) (int, bool) {
	n, ok := octal.Number(text)
	return n, ok && n <= api.MaxIndex
}

func isAt(index int) func(api.Link) bool {
	return func(l api.Link) bool { return l.Index == index }
}

func isTo(window int) func(api.Link) bool {
	return func(l api.Link) bool { return l.Window == window }
}
