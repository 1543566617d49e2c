package vt

import (
	"math/rand"
	"strings"
	"testing"

	"mullion/api"
)

// Long runs of bytes and sizes by chance, held against a paper.
func TestV2LongRuns(t *testing.T) {
	spread(240, func(i int) {
		d := dealer{rand.New(rand.NewSource(int64(i)))}
		w, h := d.size()
		a := begun(t, w, h, []int{0, 1, 3, 20, 2000}[d.Intn(5)])
		for range 800 {
			if t.Failed() {
				return
			}
			if a.feed(d.text()); d.Intn(25) == 0 {
				a.resize(d.size())
			}
			if d.Intn(20) == 0 {
				a.answer()
			}
			a.told = a.told[max(0, len(a.told)-400):]
		}
		a.probed()
	})
}

// Short runs, from new screens, each with all probes.
func TestV2ShortRuns(t *testing.T) {
	spread(24000, func(i int) {
		d := dealer{rand.New(rand.NewSource(int64(10000 + i)))}
		w, h := d.size()
		a := begun(t, min(w, 9), min(h, 5), d.Intn(4))
		for range 2 + d.Intn(6) {
			if t.Failed() {
				return
			}
			if a.feed(d.text()); d.Intn(12) == 0 {
				a.resize(d.size())
			}
		}
		a.probed()
	})
}

// wantWhole asks of a screen what always holds of one.
func wantWhole(t *testing.T, s *Screen, w, h, history int) bool {
	t.Helper()
	p := s.Picture()
	good := p.W == w && p.H == h && len(p.Places) == w*h && p.X >= 0 && p.X < w && p.Y >= 0 && p.Y < h && len(p.Title) <= 128 && s.History() >= 0 && s.History() <= history
	for i := 0; good && i < len(p.Places); i++ {
		good = goodPlace(p, i)
	}
	lines := len(s.Lines())
	if good = good && (lines == h+s.History() || lines == h && s.Alternate()); !good {
		t.Errorf("it shows %s, %d lines, History %d", drawn(p), lines, s.History())
	}
	return good
}

// goodPlace tells whether a place holds one of the glyphs that the chapter knows.
func goodPlace(p api.Picture, i int) bool {
	g := p.Places[i]
	colour := func(n int) bool { return n >= 0 && n <= 257+16777215 }
	if !colour(g.Attr.Fore) || !colour(g.Attr.Back) || g.Attr.Marks < 0 || g.Attr.Marks > 255 {
		return false
	}
	letters := []rune(g.Text)
	switch {
	case g.Width == 0 && g.Text == "":
		return i%p.W > 0 && p.Places[i-1].Width == 2 && p.Places[i-1].Attr == g.Attr
	case len(letters) != 1 || g.Width != widthByText(letters[0]) || string(letters) != g.Text:
		return false
	case g.Width == 2:
		return i%p.W < p.W-1 && p.Places[i+1].Width == 0
	}
	return g.Width == 1
}

// Over long runs: what is shown is a picture of that size, whatever was fed.
func TestV6LongRuns(t *testing.T) {
	spread(64, func(i int) {
		d := dealer{rand.New(rand.NewSource(int64(20000 + i)))}
		w, h := d.size()
		history := []int{0, 1, 5, 300, 2000}[i%5]
		s := made(t, w, h, history)
		for range 1500 {
			var text strings.Builder
			for range 1 + d.Intn(20) {
				text.WriteString([]string{d.text(), d.wild(), d.spoilt()}[d.Intn(3)])
			}
			if s.Feed(text.String()); d.Intn(10) == 0 {
				w, h = d.size()
				s.Resize(w, h)
			}
			if !wantWhole(t, s, w, h, history) {
				return
			}
		}
	})
}

// Any bytes, without a plan: many of them, on screens of all sizes.
func TestV6AnyBytes(t *testing.T) {
	spread(64, func(i int) {
		r := rand.New(rand.NewSource(int64(30000 + i)))
		w, h, history := 1+r.Intn(30), 1+r.Intn(12), r.Intn(9)
		s := made(t, w, h, history)
		data := make([]byte, 3000)
		for range 60 {
			for j := range data {
				data[j] = byte(r.Intn(256))
				if r.Intn(4) == 0 {
					data[j] = "\x1b\x1b[[?;123HJ\n"[r.Intn(12)]
				}
			}
			s.Feed(string(data))
			if !wantWhole(t, s, w, h, history) {
				return
			}
			if len(s.Answer()) > 4096 {
				t.Error("the answer is too long")
			}
		}
	})
}

// The largest screen takes all that there is.
func TestV6Large(t *testing.T) {
	s := made(t, 1000, 1000, 3)
	d := dealer{rand.New(rand.NewSource(99))}
	for range 40 {
		s.Feed(d.text() + "\x1b[999;999H" + d.text())
	}
	s.Feed("\x1b[9999S\x1b[9999T\x1b[9999L\x1b[9999M\x1b[9999@\x1b[9999P\x1b[9999X\x1b[9999I\x1b[9999Z\x1b[2J\x1b#8\u4e00\x1b[9999b")
	wantWhole(t, s, 1000, 1000, 3)
	if s.Resize(1, 1000) != api.OK || s.Resize(1000, 1) != api.OK || s.Resize(1000, 1000) != api.OK {
		t.Error("a size is refused")
	}
	wantWhole(t, s, 1000, 1000, 3)
}
