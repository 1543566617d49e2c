package target

import (
	"slices"
	"strings"

	"mullion/api"
	"mullion/layout"
	"mullion/octal"
)

// session tells what a session part means.
func (v view) session(part string) (api.Session, api.Errno) {
	if part == "" {
		return v.sessionWith(v.here, api.ErrNowhere)
	}
	if id, ok := octal.Id('$', part); ok {
		return v.sessionWith(id, api.ErrTarget)
	}
	var all []candidate
	for _, x := range v.Sessions {
		all = append(all, candidate{name: x.Name})
	}
	at, err := choose(all, part, byName)
	if err != api.OK {
		return api.Session{}, err
	}
	return v.Sessions[at], api.OK
}

func (v view) sessionWith(id int, none api.Errno) (api.Session, api.Errno) {
	at := slices.IndexFunc(v.Sessions, func(x api.Session) bool { return x.Id == id })
	if at < 0 {
		return api.Session{}, none
	}
	return v.Sessions[at], api.OK
}

// link tells what a window part means.
func (v view) link(x api.Session, part string) (api.Link, api.Errno) {
	switch part {
	case "":
		return firstLink(x, isAt(x.Current))
	case "^":
		return x.Links[0], api.OK
	case "$":
		return x.Links[len(x.Links)-1], api.OK
	case "!":
		return firstLink(x, isAt(x.Last))
	}
	if window, ok := octal.Id('@', part); ok {
		return firstLink(x, isTo(window))
	}
	if n, ok := stepIn(part); ok {
		at := slices.IndexFunc(x.Links, isAt(x.Current))
		return x.Links[round(at, n, len(x.Links))], api.OK
	}
	return v.linkByName(x, part)
}

// firstLink finds none at noIndex: no link stands there.
func firstLink(x api.Session, wanted func(api.Link) bool) (api.Link, api.Errno) {
	at := slices.IndexFunc(x.Links, wanted)
	if at < 0 {
		return api.Link{}, api.ErrTarget
	}
	return x.Links[at], api.OK
}

func (v view) linkByName(x api.Session, part string) (api.Link, api.Errno) {
	var all []candidate
	for _, l := range x.Links {
		all = append(all, candidate{l.Index, v.window(l.Window).Name})
	}
	at, err := choose(all, part, byIndex)
	if err != api.OK {
		return api.Link{}, err
	}
	return x.Links[at], api.OK
}

// paneOf tells what a pane part means.
func paneOf(w api.Window, part string) (int, api.Errno) {
	switch part {
	case "":
		return w.Active, api.OK
	case "!":
		return orTarget(w.Last, w.Last != noPane)
	}
	if side, ok := sideIn(part); ok {
		return orTarget(layout.Beside(w.Cells, w.Active, side))
	}
	if id, ok := octal.Id('%', part); ok {
		return orTarget(id, hasPane(w, id))
	}
	panes := layout.Panes(w.Cells)
	if n, ok := stepIn(part); ok {
		return panes[round(slices.Index(panes, w.Active), n, len(panes))], api.OK
	}
	if n, ok := octal.Number(part); ok && n < len(panes) {
		return panes[n], api.OK
	}
	return 0, api.ErrTarget
}

func orTarget(pane int, ok bool) (int, api.Errno) {
	if !ok {
		return 0, api.ErrTarget
	}
	return pane, api.OK
}

func hasPane(w api.Window, pane int) bool {
	_, ok := layout.Find(w.Cells, pane)
	return ok
}

func sideIn(part string) (int, bool) {
	switch part {
	case "{left-of}":
		return api.SideLeft, true
	case "{right-of}":
		return api.SideRight, true
	case "{up-of}":
		return api.SideUp, true
	case "{down-of}":
		return api.SideDown, true
	}
	return 0, false
}

// stepIn reads + or -, alone or with a number behind it; false: the part is none of these.
func stepIn(part string) (int, bool) {
	number, on := strings.CutPrefix(part, "+")
	back := false
	if !on {
		number, back = strings.CutPrefix(part, "-")
	}
	if !on && !back {
		return 0, false
	}
	n, ok := 1, true
	if number != "" {
		n, ok = octal.Number(number)
	}
	if back {
		n = -n
	}
	return n, ok
}

// round takes the remainder of the step ahead of all else: the sum could wrap round.
func round(at, step, length int) int {
	return (at + step%length + length) % length
}
