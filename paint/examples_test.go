package paint

import (
	"testing"

	"mullion/api"
	"mullion/vt"
)

// wantBytes asks for one text, which others might be as good as, and lets a
// terminal show what it leads to.
func wantBytes(t *testing.T, from, to api.Picture, want string) {
	t.Helper()
	a := begun(t, from.W, from.H)
	a.show(from)
	a.show(to)
	if data, err := Bytes(from, to); data != want || err != api.OK {
		t.Errorf("from %s to %s: %q, error %d, and not %q", drawn(from), drawn(to), data, err, want)
	}
}

func TestExample1(t *testing.T) {
	from := blank(t, 5, 3)
	to := with(from, func(p *api.Picture) {
		put(p, 0, 0, narrow("a", api.Attr{}))
		p.X, p.Y = 1, 0
	})
	wantBytes(t, from, to, "a")
	s, _ := vt.New(5, 3, 0)
	s.Feed("a")
	if !Same(s.Picture(), to) {
		t.Errorf("a screen that is fed a shows %s", drawn(s.Picture()))
	}
}

func TestExample2(t *testing.T) {
	d := dealt(1)
	for _, from := range []api.Picture{blank(t, 5, 3), with(blank(t, 5, 3), d.whole), with(blank(t, 5, 3), func(p *api.Picture) { p.Hidden, p.Title = true, "x" })} {
		wantBytes(t, from, with(from, func(p *api.Picture) { p.X, p.Y = 4, 1 }), "\x1b[2;5H")
		wantBytes(t, with(from, func(p *api.Picture) { p.X, p.Y = 4, 2 }), from, "\x1b[1;1H")
	}
}

func TestExample3(t *testing.T) {
	wantRefused(t, blank(t, 5, 3), blank(t, 5, 4))
	wantRefused(t, blank(t, 5, 4), blank(t, 5, 3))
	p := with(blank(t, 5, 3), func(p *api.Picture) { p.Places[4] = api.Glyph{Text: "\u4e00", Width: 2} })
	wantCheck(t, p, false)
	p.Places[5] = api.Glyph{}
	wantCheck(t, p, false)
}
