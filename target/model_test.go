package target

import (
	"math/big"
	"regexp"
	"strings"
	"testing"

	"mullion/api"
	"mullion/delta"
	"mullion/format"
	"mullion/layout"
)

// A row is one pane at one index of one session, with all that a text can ask
// of it. The model writes a state down as rows, and each part of a text strikes
// out those that it does not mean.
type row struct {
	api.Place
	session, window string // names
	isCurrent       bool
	isLastIndex     bool
	isActive        bool
	isLastPane      bool
	nth             int // which pane of its window
	cells           []api.Cell
}

func rowsOf(s api.State) []row {
	var out []row
	for _, x := range s.Sessions {
		for _, l := range x.Links {
			for _, w := range s.Windows {
				if w.Id != l.Window {
					continue
				}
				for n, p := range layout.Panes(w.Cells) {
					out = append(out, row{place(x.Id, l.Index, w.Id, p), x.Name, w.Name, l.Index == x.Current, l.Index == x.Last, p == w.Active, p == w.Last, n, w.Cells})
				}
			}
		}
	}
	return out
}

func those(rows []row, wanted func(row) bool) []row {
	var out []row
	for _, r := range rows {
		if wanted(r) {
			out = append(out, r)
		}
	}
	return out
}

// leastOf leaves those rows whose number is the least.
func leastOf(rows []row, number func(row) int) []row {
	for _, r := range rows {
		if fewer := those(rows, func(o row) bool { return number(o) < number(r) }); len(fewer) > 0 {
			return leastOf(fewer, number)
		}
	}
	return rows
}

func sessionOf(r row) int { return r.Session }
func indexOf(r row) int   { return r.Index }
func paneIn(r row) int    { return r.Pane }

// one tells whether all rows have one and the same number: none, or several, are an error.
func one(rows []row, number func(row) int) ([]row, api.Errno) {
	if len(rows) == 0 {
		return nil, api.ErrTarget
	}
	if len(leastOf(rows, number)) < len(rows) {
		return nil, api.ErrMany
	}
	return rows, api.OK
}

var (
	anId     = regexp.MustCompile(`^[$@%]([1-9][0-9]*)$`)
	aNumber  = regexp.MustCompile(`^(?:0|[1-9][0-9]*)$`)
	aStep    = regexp.MustCompile(`^([+-])(0|[1-9][0-9]*)?$`)
	aSide    = regexp.MustCompile(`^\{(left|right|up|down)-of\}$`)
	sideOf   = map[string]int{"left": 1, "right": 2, "up": 3, "down": 4}
	greatest = new(big.Int).Lsh(big.NewInt(1), 62)
)

// numberIn is the number that a text writes; below 0: none.
func numberIn(text string) int {
	n, ok := new(big.Int).SetString(text, 10)
	if !aNumber.MatchString(text) || !ok || n.Cmp(greatest) > 0 {
		return -1
	}
	return int(n.Int64())
}

// idIn is the id that a text writes with this mark; below 0: none.
func idIn(mark, text string) int {
	if m := anId.FindStringSubmatch(text); m != nil && strings.HasPrefix(text, mark) {
		return numberIn(m[1])
	}
	return -1
}

// placesOn answers how many places to go on, of so many; false: the text is no step.
func placesOn(text string, of int) (int, bool) {
	m := aStep.FindStringSubmatch(text)
	if m == nil || m[2] != "" && numberIn(m[2]) < 0 {
		return 0, false
	}
	if m[2] == "" {
		m[2] = "1"
	}
	n, _ := new(big.Int).SetString(m[1]+m[2], 10)
	return int(n.Mod(n, big.NewInt(int64(of))).Int64()), true
}

// byWays takes the first of the ways by which a name means something.
func byWays(rows []row, text string, name func(row) string, number func(row) int) ([]row, api.Errno) {
	if strings.HasPrefix(text, "=") {
		return one(those(rows, func(r row) bool { return "="+name(r) == text }), number)
	}
	for _, way := range []func(n string) bool{
		func(n string) bool { return n == text },
		func(n string) bool { return len(n) >= len(text) && n[:len(text)] == text },
		func(n string) bool { return format.Match(text, n) },
	} {
		if meant := those(rows, func(r row) bool { return way(name(r)) }); len(meant) > 0 {
			return one(meant, number)
		}
	}
	return nil, api.ErrTarget
}

func ofSession(rows []row, here int, part string) ([]row, api.Errno) {
	wanted, none := here, api.ErrNowhere
	if part != "" {
		wanted, none = idIn("$", part), api.ErrTarget
		if wanted < 0 {
			return byWays(rows, part, func(r row) string { return r.session }, sessionOf)
		}
	}
	if mine := those(rows, func(r row) bool { return r.Session == wanted }); len(mine) > 0 {
		return mine, api.OK
	}
	return nil, none
}

func ofLink(rows []row, part string) ([]row, api.Errno) {
	indices := []int{}
	for left := rows; len(left) > 0; {
		least := leastOf(left, indexOf)[0].Index
		indices = append(indices, least)
		left = those(left, func(r row) bool { return r.Index > least })
	}
	at := func(index int) ([]row, api.Errno) {
		return one(those(rows, func(r row) bool { return r.Index == index }), indexOf)
	}
	switch part {
	case "":
		return one(those(rows, func(r row) bool { return r.isCurrent }), indexOf)
	case "!":
		return one(those(rows, func(r row) bool { return r.isLastIndex }), indexOf)
	case "^":
		return at(indices[0])
	case "$":
		return at(indices[len(indices)-1])
	}
	if window := idIn("@", part); window > 0 {
		return one(leastOf(those(rows, func(r row) bool { return r.Window == window }), indexOf), indexOf)
	}
	if n, ok := placesOn(part, len(indices)); ok {
		for i, index := range append(indices, indices...) {
			if current := those(rows, func(r row) bool { return r.isCurrent }); current[0].Index == index {
				return at(append(indices, indices...)[i+n])
			}
		}
	}
	if meant, err := at(numberIn(part)); err == api.OK {
		return meant, err
	}
	return byWays(rows, part, func(r row) string { return r.window }, indexOf)
}

func ofPane(rows []row, part string) ([]row, api.Errno) {
	active := those(rows, func(r row) bool { return r.isActive })
	wanted := func(row) bool { return false }
	if n, ok := placesOn(part, len(rows)); ok {
		wanted = func(r row) bool { return r.nth == (active[0].nth+n)%len(rows) }
	} else if m := aSide.FindStringSubmatch(part); m != nil {
		beside, ok := layout.Beside(active[0].cells, active[0].Pane, sideOf[m[1]])
		wanted = func(r row) bool { return ok && r.Pane == beside }
	} else if id := idIn("%", part); id > 0 {
		wanted = func(r row) bool { return r.Pane == id }
	} else if n := numberIn(part); n >= 0 {
		wanted = func(r row) bool { return r.nth == n }
	} else if part == "!" {
		wanted = func(r row) bool { return r.isLastPane }
	} else if part == "" {
		return active, api.OK
	}
	return one(those(rows, wanted), paneIn)
}

// inOrder takes the parts of a text that says them all.
func inOrder(rows []row, here int, sessionPart, windowPart, panePart string) answer {
	rows, err := ofSession(rows, here, sessionPart)
	if err == api.OK {
		rows, err = ofLink(rows, windowPart)
	}
	if err == api.OK {
		rows, err = ofPane(rows, panePart)
	}
	if err != api.OK {
		return answer{err: err}
	}
	return answer{rows[0].Place, api.OK}
}

// homeIn answers the row of a window's active pane where it stands.
func homeIn(rows []row, here, window int) (row, bool) {
	rows = those(rows, func(r row) bool { return r.Window == window && r.isActive })
	if mine := those(rows, func(r row) bool { return r.Session == here }); len(mine) > 0 {
		rows = mine
	}
	if rows = leastOf(leastOf(rows, sessionOf), indexOf); len(rows) == 0 {
		return row{}, false
	}
	return rows[0], true
}

func byId(rows []row, here int, text string) answer {
	for _, r := range rows {
		if r.Window != idIn("@", text) && r.Pane != idIn("%", text) {
			continue
		}
		home, _ := homeIn(rows, here, r.Window)
		if text[0] == '%' {
			home.Pane = r.Pane
		}
		return answer{home.Place, api.OK}
	}
	return answer{err: api.ErrTarget}
}

func expect(s api.State, here int, text string, mean int) answer {
	if !delta.Valid(s) {
		return answer{err: api.ErrState}
	}
	if mean < 1 || mean > 4 {
		return answer{err: api.ErrArg}
	}
	rows := rowsOf(s)
	if idIn("%", text) > 0 || idIn("@", text) > 0 {
		return byId(rows, here, text)
	}
	colon := strings.SplitN(text, ":", 2)
	if mean == api.MeanIndex {
		return expectIndex(rows, here, colon)
	}
	if len(colon) == 2 {
		dot := []string{colon[1], ""}
		if mean == api.MeanPane {
			dot = append(strings.SplitN(colon[1], ".", 2), "")
		}
		return inOrder(rows, here, colon[0], dot[0], dot[1])
	}
	if text == "" {
		return inOrder(rows, here, "", "", "")
	}
	if dot := strings.SplitN(text, ".", 2); mean == api.MeanPane && len(dot) == 2 {
		return inOrder(rows, here, "", dot[0], dot[1])
	}
	trials := []answer{inOrder(rows, here, "", "", text), inOrder(rows, here, "", text, ""), inOrder(rows, here, text, "", "")}
	trials = trials[3-mean:]
	for _, a := range trials {
		if a.err == api.OK || a.err == api.ErrMany {
			return a
		}
	}
	return trials[len(trials)-1]
}

func expectIndex(rows []row, here int, colon []string) answer {
	if len(colon) == 1 {
		if n := numberIn(colon[0]); n >= 0 && n <= 9999 {
			colon = []string{"", colon[0]}
		} else {
			colon = []string{colon[0], ""}
		}
	}
	mine, err := ofSession(rows, here, colon[0])
	if err != api.OK {
		return answer{err: err}
	}
	free := place(mine[0].Session, -1, 0, 0)
	if colon[1] == "" {
		return answer{free, api.OK}
	}
	n := numberIn(colon[1])
	if there := those(mine, func(r row) bool { return r.Index == n }); n >= 0 && n <= 9999 && len(there) == 0 {
		free.Index = n
		return answer{free, api.OK}
	}
	return inOrder(mine, mine[0].Session, "", colon[1], "")
}

// hold holds Find against the model.
func hold(t *testing.T, s api.State, here int, text string, mean int) answer {
	t.Helper()
	got, want := found(s, here, text, mean), expect(s, here, text, mean)
	if got != want {
		t.Fatalf("%q as %d, here %d: %v, and not %v, in\n%+v", text, mean, here, got, want, s)
	}
	return got
}
