package paint

import (
	"fmt"
	"runtime"
	"slices"
	"strings"
	"sync"
	"testing"

	"mullion/api"
	"mullion/vt"
)

// terminal is a screen that is led from picture to picture.
type terminal struct {
	t     testing.TB
	s     *vt.Screen
	at    api.Picture
	shown int
}

func begun(t testing.TB, w, h int) *terminal {
	t.Helper()
	s, err := vt.New(w, h, 0)
	if err != api.OK {
		t.Fatalf("vt.New(%d, %d, 0) answers error %d", w, h, err)
	}
	return &terminal{t: t, s: s, at: blank(t, w, h)}
}

func blank(t testing.TB, w, h int) api.Picture {
	t.Helper()
	p, err := vt.Blank(w, h)
	if err != api.OK {
		t.Fatalf("vt.Blank(%d, %d) answers error %d", w, h, err)
	}
	return p
}

// show leads the terminal to a picture, and asks of the bytes all that each
// call promises. Behind a fault the terminal is where it was led by nothing:
// so it answers whether all is well.
func (a *terminal) show(to api.Picture) bool {
	a.t.Helper()
	data, err := Bytes(a.at, to)
	a.s.Feed(data)
	a.shown++
	now := a.s.Picture()
	fault := ""
	switch bells, back := a.s.Bells(), a.s.Answer(); {
	case err != api.OK:
		fault = fmt.Sprintf("error %d", err)
	case !samePicture(now, to):
		fault = "shows " + drawn(now)
	case back != "":
		fault = fmt.Sprintf("sends back %q", back)
	case bells != 0:
		fault = "rings"
	case a.s.Alternate() || a.s.App() || a.s.Bracket():
		fault = "a mode is left on"
	case len(data) > bound(a.at, to):
		fault = fmt.Sprintf("%d bytes, and not at most %d", len(data), bound(a.at, to))
	}
	if fault != "" {
		a.t.Errorf("picture %d: %.200q, from %s to %s: %s", a.shown, data, drawn(a.at), drawn(to), fault)
	}
	a.at = to
	return fault == ""
}

// bound is how many bytes may be told.
func bound(from, to api.Picture) int {
	most := 96*differing(from, to) + 64
	if from.Title != to.Title {
		most += len(to.Title)
	}
	return most
}

// drawn is a small picture as a text.
func drawn(p api.Picture) string {
	var b strings.Builder
	fmt.Fprintf(&b, "%dx%d (%d, %d) hidden %v %q", p.W, p.H, p.X, p.Y, p.Hidden, p.Title)
	for i, g := range p.Places {
		if i == 40 {
			b.WriteString(" ..")
			break
		}
		if g != (api.Glyph{Text: " ", Width: 1}) {
			fmt.Fprintf(&b, " %d:%q/%d/%v", i, g.Text, g.Width, g.Attr)
		}
	}
	return b.String()
}

// copied is a picture in memory of its own.
func copied(p api.Picture) api.Picture {
	p.Places = slices.Clone(p.Places)
	for i := range p.Places {
		p.Places[i].Text = strings.Clone(p.Places[i].Text)
	}
	p.Title = strings.Clone(p.Title)
	return p
}

// with is a copy of a picture that is changed.
func with(p api.Picture, change func(*api.Picture)) api.Picture {
	p = copied(p)
	change(&p)
	return p
}

// narrow and wide are the glyphs of one letter: one place, and two.
func narrow(text string, attr api.Attr) []api.Glyph {
	return []api.Glyph{{Text: text, Width: 1, Attr: attr}}
}

func wide(text string, attr api.Attr) []api.Glyph {
	return []api.Glyph{{Text: text, Width: 2, Attr: attr}, {Attr: attr}}
}

// put lays a letter onto a picture; letters of width 2 of which it takes a
// half become blanks. It lies on the picture.
func put(p *api.Picture, x, y int, letter []api.Glyph) {
	row := p.Places[p.W*y : p.W*y+p.W]
	for i := range letter {
		mend(row, x+i)
	}
	copy(row[x:], letter)
}

// mend makes the letter that a place is a part of blanks.
func mend(row []api.Glyph, x int) {
	space := narrow(" ", row[x].Attr)[0]
	switch row[x].Width {
	case 0:
		row[x-1] = space
	case 2:
		row[x+1] = space
	}
	row[x] = space
}

// spread lets work be done on all processors.
func spread(n int, work func(i int)) {
	var all sync.WaitGroup
	workers := runtime.NumCPU()
	for worker := range workers {
		all.Go(func() {
			for i := worker; i < n; i += workers {
				work(i)
			}
		})
	}
	all.Wait()
}
