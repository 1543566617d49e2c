package vt

import (
	"math"
	"testing"

	"mullion/api"
)

var sides = []int{math.MinInt, -1000, -1, 0, 1, 2, 999, 1000, 1001, 65537, math.MaxInt}

func sideMayBe(n int) bool { return n >= 1 && n <= 1000 }

// Each side and each history at its bounds and beyond; a side's error comes first.
func TestV1NewErrors(t *testing.T) {
	for _, w := range sides {
		for _, h := range sides {
			for _, history := range []int{math.MinInt, -1, 0, 1, 1999, 2000, 2001, math.MaxInt} {
				want := api.OK
				if history < 0 || history > 2000 {
					want = api.ErrArg
				}
				if !sideMayBe(w) || !sideMayBe(h) {
					want = api.ErrSide
				}
				if want == api.OK && w*h > 100000 && history > 0 {
					continue // made once with no history: it is large
				}
				if s, err := New(w, h, history); err != want || (s == nil) != (want != api.OK) {
					t.Errorf("New(%d, %d, %d) answers error %d, not %d", w, h, history, err, want)
				}
			}
		}
	}
}

func TestV1BlankErrors(t *testing.T) {
	for _, w := range sides {
		for _, h := range sides {
			p, err := Blank(w, h)
			switch {
			case sideMayBe(w) && sideMayBe(h):
				wantBlank(t, p, w, h)
				if err != api.OK {
					t.Errorf("Blank(%d, %d) answers error %d", w, h, err)
				}
			case err != api.ErrSide || !samePicture(p, api.Picture{}):
				t.Errorf("Blank(%d, %d) answers %s, error %d", w, h, drawn(p), err)
			}
		}
	}
}

// wantBlank asks for the picture of a new screen.
func wantBlank(t *testing.T, p api.Picture, w, h int) {
	t.Helper()
	if p.W != w || p.H != h || len(p.Places) != w*h || p.X != 0 || p.Y != 0 || p.Hidden || p.Title != "" {
		t.Errorf("%dx%d: %d x %d, %d places, cursor (%d, %d), hidden %v, title %q", w, h, p.W, p.H, len(p.Places), p.X, p.Y, p.Hidden, p.Title)
	}
	for i, g := range p.Places {
		if g != (api.Glyph{Text: " ", Width: 1}) {
			t.Fatalf("%dx%d: the place %d holds %v", w, h, i, g)
		}
	}
}

// What a new screen shows and tells, and that all modes are as at first.
func TestV1NewScreen(t *testing.T) {
	for _, size := range [][3]int{{1, 1, 0}, {5, 3, 0}, {80, 24, 2000}, {1000, 1, 7}, {1, 1000, 7}} {
		s := made(t, size[0], size[1], size[2])
		wantBlank(t, s.Picture(), size[0], size[1])
		if s.Answer() != "" || s.Bells() != 0 || s.History() != 0 || s.App() || s.Bracket() || s.Alternate() {
			t.Errorf("%v: something is there at first", size)
		}
		lines := s.Lines()
		for _, line := range lines {
			if line != "" {
				t.Errorf("%v: Lines are %q", size, lines)
			}
		}
		if len(lines) != size[1] {
			t.Errorf("%v: %d lines", size, len(lines))
		}
	}
	for _, size := range sizes {
		begun(t, size[0], size[1], size[2]).look().probed()
	}
}
