package vt

import (
	"fmt"
	"runtime"
	"slices"
	"strings"
	"sync"
	"testing"

	"mullion/api"
)

// pair is a screen, and a paper that is told the same.
type pair struct {
	t    testing.TB
	s    *Screen
	p    *paper
	told []string // what was fed, and the sizes that it was given
}

func made(t testing.TB, w, h, history int) *Screen {
	t.Helper()
	s, err := New(w, h, history)
	if s == nil || err != api.OK {
		t.Fatalf("New(%d, %d, %d) answers error %d", w, h, history, err)
	}
	return s
}

func begun(t testing.TB, w, h, history int) *pair {
	t.Helper()
	return &pair{t: t, s: made(t, w, h, history), p: newPaper(w, h, history)}
}

// feed feeds each text to both, and holds them against each other behind it.
func (a *pair) feed(texts ...string) *pair {
	for _, text := range texts {
		a.s.Feed(text)
		a.p.feed(text)
		a.told = append(a.told, text)
		a.look()
	}
	return a
}

// bytewise feeds a text byte by byte, and holds them against each other behind each.
func (a *pair) bytewise(text string) *pair {
	for i := range len(text) {
		a.feed(text[i : i+1])
	}
	return a
}

func (a *pair) resize(w, h int) *pair {
	a.told = append(a.told, fmt.Sprintf("=%dx%d", w, h))
	if err := a.s.Resize(w, h); err != api.OK {
		a.t.Errorf("%s: error %d", a.log(), err)
	}
	a.p.resize(w, h)
	return a.look()
}

// step does what a text says: "=WxH" is a Resize, all others are fed.
func (a *pair) step(text string) *pair {
	var w, h int
	if !strings.HasPrefix(text, "=") {
		return a.feed(text)
	}
	fmt.Sscanf(text, "=%dx%d", &w, &h)
	return a.resize(w, h)
}

func (a *pair) answer() *pair {
	got, want := a.s.Answer(), a.p.answer
	a.p.answer = ""
	if got != want {
		a.t.Errorf("%s: Answer is %q, not %q", a.log(), got, want)
	}
	return a
}

func (a *pair) log() string {
	text := fmt.Sprintf("%dx%d, history %d: %q", a.s.w, a.s.h, a.p.history, a.told)
	if len(text) > 3000 {
		text = text[:300] + " .. " + text[len(text)-2500:]
	}
	return text
}

// picture is what the paper shows.
func (p *paper) picture() api.Picture {
	picture := api.Picture{W: p.w, H: p.h, X: p.x, Y: p.y, Hidden: p.modes["?25"], Title: p.title}
	for _, row := range p.rows {
		for _, c := range row {
			picture.Places = append(picture.Places, c.Glyph)
		}
	}
	return picture
}

func (p *paper) lines() []string {
	rows := p.rows
	if !p.alternate {
		rows = slices.Concat(p.past, p.rows)
	}
	lines := make([]string, 0, len(rows))
	for _, row := range rows {
		lines = append(lines, textOf(row))
	}
	return lines
}

// look holds what can be seen of the screen against the paper.
func (a *pair) look() *pair {
	if got := a.s.Picture(); !a.p.shows(got) {
		a.t.Errorf("%s shows\n%s\nand not\n%s", a.log(), drawn(got), drawn(a.p.picture()))
	}
	if got, want := a.s.Lines(), a.p.lines(); !slices.Equal(got, want) {
		a.t.Errorf("%s: Lines are %q, not %q", a.log(), got, want)
	}
	if got, want := [2]int{a.s.Bells(), a.s.History()}, [2]int{a.p.bells, len(a.p.past)}; got != want {
		a.t.Errorf("%s: Bells and History are %v, not %v", a.log(), got, want)
	}
	if got, want := [3]bool{a.s.App(), a.s.Bracket(), a.s.Alternate()}, [3]bool{a.p.modes["?1"], a.p.modes["?2004"], a.p.alternate}; got != want {
		a.t.Errorf("%s: App, Bracket and Alternate are %v, not %v", a.log(), got, want)
	}
	return a
}

// shows tells whether a picture is the paper's.
func (p *paper) shows(picture api.Picture) bool {
	if head := picture; len(head.Places) != p.w*p.h || head.Title != p.title || head.Hidden != p.modes["?25"] {
		return false
	}
	for y, row := range p.rows {
		for x, c := range row {
			if picture.Places[p.w*y+x] != c.Glyph {
				return false
			}
		}
	}
	return [...]int{picture.W, picture.H, picture.X, picture.Y} == [...]int{p.w, p.h, p.x, p.y}
}

func samePicture(a, b api.Picture) bool {
	same := a.W == b.W && a.H == b.H && a.X == b.X && a.Y == b.Y && a.Hidden == b.Hidden && a.Title == b.Title
	return same && slices.Equal(a.Places, b.Places)
}

// rowsOf is the letters of a picture's rows, with / between.
func rowsOf(p api.Picture) string {
	var b strings.Builder
	for i, g := range p.Places {
		if i > 0 && i%p.W == 0 {
			b.WriteByte('/')
		}
		b.WriteString(g.Text)
	}
	return b.String()
}

// drawn is a picture for people: rows, cursor, title, and what is not plain.
func drawn(p api.Picture) string {
	var b strings.Builder
	fmt.Fprintf(&b, "%dx%d %q (%d, %d) hidden %v title %q", p.W, p.H, rowsOf(p), p.X, p.Y, p.Hidden, p.Title)
	for i, g := range p.Places {
		if g.Attr != (api.Attr{}) || g.Width != 1 {
			fmt.Fprintf(&b, " (%d, %d) %q %d %v", i%p.W, i/p.W, g.Text, g.Width, g.Attr)
		}
	}
	return b.String()
}

// probes bring to light what a picture does not show: waiting, pen, sets, the
// kept cursors, modes, tab stops, the region, the last letter, the history.
var probes = []string{
	"\x1b[6n", "x", "\u4e00", "\x1b8y", "\x0eq", "\x0fq", "\x1b[H", "\tz\tz", "\x1b[Zv", "\x1b[9999B", "\n", "w\n", "\x1b[9999A", "\x1bMu", "\x1b[2b", "\x1b[?47l", "\x1b8t", "=11x6", "\x1b[999C!!", "=3x2", "r",
}

// probed goes through the probes.
func (a *pair) probed() *pair {
	a.answer()
	for _, probe := range probes {
		a.step(probe)
	}
	return a.answer()
}

// spread lets many workers share out the numbers below n.
func spread(n int, work func(i int)) {
	var all sync.WaitGroup
	workers := runtime.NumCPU()
	for worker := range workers {
		all.Go(func() {
			for i := worker; i < n; i += workers {
				work(i)
			}
		})
	}
	all.Wait()
}

// stories lets each of the setups, then each of the steps, then the probes
// happen, on a new pair of each of the sizes.
func stories(t *testing.T, sizes [][3]int, setups, steps []string) {
	t.Helper()
	spread(len(setups)*len(steps), func(i int) {
		setup, step := setups[i/len(steps)], steps[i%len(steps)]
		for _, size := range sizes {
			if t.Failed() {
				return
			}
			begun(t, size[0], size[1], size[2]).step(setup).step(step).probed()
		}
	})
}

// sizes are screens of all sorts: width, height, history.
var sizes = [][3]int{{5, 3, 0}, {1, 1, 2}, {2, 2, 1}, {10, 4, 3}, {19, 2, 9}}
