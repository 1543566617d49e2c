package mirror

import (
	"fmt"
	"math/rand"
	"testing"

	"mullion/api"
	"mullion/layout"
	"mullion/plan"
	"mullion/wire"
)

// writer feeds a pair lines that are made by chance, most of them such as may follow.
type writer struct {
	*pair
	*rand.Rand
	count map[int]int // how many lines of each kind have followed
}

func newWriter(t *testing.T, seed int64) *writer {
	t.Helper()
	return &writer{pair: begun(t), Rand: rand.New(rand.NewSource(seed)), count: map[int]int{}}
}

func (w *writer) number(most int) int {
	if w.Intn(60) == 0 {
		return api.MaxNumber - w.Intn(2)
	}
	return w.Intn(most)
}

func (w *writer) text() string {
	const letters = "ab%\\\n\x00\xff :end"
	b := make([]byte, w.Intn(9))
	for i := range b {
		b[i] = letters[w.Intn(len(letters))]
	}
	return string(b)
}

// plans are the two plans of a window, and whether it is zoomed.
func (w *writer) plans() (string, string, bool) {
	pane := 1 + w.Intn(5)
	l, _ := layout.New(20, 10, pane)
	for range w.Intn(3) {
		if more, err := layout.Split(l, pane, 2+w.Intn(2), 0, false, 1+w.Intn(5)); err == api.OK {
			l = more
		}
	}
	whole, _ := plan.Text(l)
	one, _ := layout.New(20, 10, pane)
	visible, _ := plan.Text(one)
	switch {
	case len(l) > 1 && w.Intn(3) == 0:
		return whole, visible, true
	case w.Intn(20) == 0:
		return whole, visible, w.Intn(2) == 0
	}
	return whole, whole, false
}

// event is one of a kind.
func (w *writer) event(kind int) api.Event {
	e := api.Event{Kind: kind, Session: 1 + w.number(3), Window: 1 + w.number(3), Pane: 1 + w.number(4), Index: w.Intn(4), Offset: w.number(40), Tick: w.Intn(2), Number: w.Intn(2), Flag: w.Intn(2), Name: string(rune('a' + w.Intn(4))), Text: w.text()}
	e.Session, e.Window, e.Pane = min(e.Session, api.MaxNumber), min(e.Window, api.MaxNumber), min(e.Pane, api.MaxNumber)
	e.Layout, e.Visible, e.Zoom = w.plans()
	// Offsets near the end are those that matter.
	for _, f := range w.m.Feeds() {
		if f.Pane == e.Pane && w.Intn(4) > 0 && f.End < api.MaxNumber-9 {
			e.Offset = max(0, f.End+w.Intn(6)-2)
		}
	}
	return e
}

// line is the line of an event of a kind, with the fields alone that its kind names.
func (w *writer) line(kind int) string {
	e := w.event(kind)
	for range 40 {
		named := api.Event{Kind: kind}
		switch kind {
		case api.EvBegin, api.EvEnd, api.EvError:
			named.Tick, named.Number, named.Flag = e.Tick, e.Number, e.Flag
		case api.EvBody, api.EvMessage, api.EvExit:
			named.Text = e.Text
		case api.EvOutput:
			named.Pane, named.Text = e.Pane, e.Text
		case api.EvPause, api.EvContinue, api.EvPaneAdd:
			named.Pane, named.Offset = e.Pane, e.Offset
		case api.EvPaneClose:
			named.Pane = e.Pane
		case api.EvWindowAdd, api.EvWindowRenamed:
			named.Window, named.Name = e.Window, e.Name
		case api.EvWindowClose:
			named.Window = e.Window
		case api.EvLayout:
			named.Window, named.Layout, named.Visible, named.Zoom = e.Window, e.Layout, e.Visible, e.Zoom
		case api.EvPaneChanged:
			named.Window, named.Pane = e.Window, e.Pane
		case api.EvSessionAdd, api.EvSessionRenamed, api.EvSession:
			named.Session, named.Name = e.Session, e.Name
		case api.EvSessionClose:
			named.Session = e.Session
		case api.EvLink:
			named.Session, named.Index, named.Window = e.Session, e.Index, e.Window
		case api.EvUnlink, api.EvSessionWindow:
			named.Session, named.Index = e.Session, e.Index
		case api.EvWatch:
			named.Name, named.Session, named.Window, named.Index, named.Pane, named.Text = e.Name, e.Session, e.Window, e.Index, e.Pane, e.Text
		default:
			return "%" + w.text()
		}
		if line, err := wire.Encode(named); err == api.OK {
			return line
		}
		e = w.event(kind)
	}
	w.t.Fatalf("no event of the kind %d has a line", kind)
	return ""
}

// follower is a line that follows, of whatever kind; false: none was found.
func (w *writer) follower() (string, int, bool) {
	p, _ := w.b.page()
	for range 300 {
		kind := 1 + w.Intn(api.EvBad)
		switch kind {
		case api.EvExit:
			kind += min(1, w.Intn(40)) // mostly one that is no event's, and so no follower
		case api.EvSessionClose, api.EvWindowClose, api.EvPaneClose, api.EvUnlink:
			if w.Intn(3) > 0 {
				continue
			}
		}
		line := w.line(kind)
		if _, may := p.rule(wire.Decode(line)); may {
			return line, kind, true
		}
	}
	return "", 0, false
}

// write feeds so many lines that follow, and then one that may be any.
func (w *writer) write(lines int) {
	w.t.Helper()
	for range lines {
		line, kind, found := w.follower()
		if !found {
			break
		}
		w.tell(line)
		w.count[kind]++
	}
	w.tell(w.line(1 + w.Intn(api.EvBad)))
	if w.Intn(2) == 0 {
		w.feed(w.line(1 + w.Intn(api.EvBad)))
	}
}

// Long runs of lines made by chance, each held against the tests' own mirror: of all kinds many follow.
func TestM3LinesByChance(t *testing.T) {
	count := map[int]int{}
	broken, ended := 0, 0
	for seed := range int64(150) {
		w := newWriter(t, 1000+seed)
		w.write(100)
		for kind, times := range w.count {
			count[kind] += times
		}
		if _, is := w.m.Broken(); is {
			broken++
		}
		if _, is := w.m.Ended(); is {
			ended++
		}
	}
	for kind := api.EvBegin; kind < api.EvBad; kind++ {
		if count[kind] < 20 {
			t.Errorf("of the kind %d only %d lines have followed", kind, count[kind])
		}
	}
	if broken < 10 || broken > 145 || ended < 5 {
		t.Error(fmt.Sprint("of 150 mirrors ", broken, " are broken, and ", ended, " have ended"))
	}
}
