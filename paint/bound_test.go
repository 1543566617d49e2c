package paint

import (
	"strings"
	"testing"

	"mullion/api"
)

// dearest are Attrs that have the most bytes, and of which each one changes all.
var dearest = []api.Attr{
	{Fore: 257 + 0xffffff, Back: 257 + 0xfefefe, Marks: 255},
	{Fore: 257 + 0xfdfdfd, Back: 257 + 0xfcfcfc, Marks: 254},
}

// dear lets every step-th place hold the letter with the most bytes, in the
// dearest Attrs by turns.
func dear(p *api.Picture, from, step int) {
	for i := from; i < len(p.Places); i += step {
		p.Places[i] = narrow("\U0010ffff", dearest[i/step%2])[0]
	}
}

// costs leads a terminal to a picture that differs at n places; show asks the bound.
func costs(a *terminal, n int, change func(*api.Picture)) {
	a.t.Helper()
	to := with(a.at, change)
	if got := differing(a.at, to); got != n {
		a.t.Errorf("%d places differ, not %d", got, n)
	}
	a.show(to)
}

var boundSizes = [][2]int{{1, 1}, {1, 2}, {2, 1}, {5, 3}, {80, 24}, {1000, 1}, {1, 1000}, {1000, 20}, {20, 1000}}

// all lets everything that is no place change too, to what has the most bytes.
func all(title string) func(*api.Picture) {
	return func(p *api.Picture) {
		p.Hidden, p.Title = !p.Hidden, title
		if p.X = p.W - 1 - p.X; p.X == p.W-1 {
			p.Y = p.H - 1
		}
	}
}

func TestP204NoPlace(t *testing.T) {
	for _, size := range boundSizes {
		a := begun(t, size[0], size[1])
		for _, title := range []string{"", "x", strings.Repeat("x", 128), strings.Repeat("y", 128), "", strings.Repeat("z", 127)} {
			costs(a, 0, all(title))
			costs(a, 0, all(title))
			costs(a, 0, all(""))
		}
	}
}

func TestP204OnePlace(t *testing.T) {
	for _, size := range boundSizes {
		w, h := size[0], size[1]
		a := begun(t, w, h)
		for i, at := range []int{0, w - 1, w * h / 2, w*h - w, w*h - 1, w*h - 1} {
			for _, title := range []string{"", strings.Repeat("x", 128)} {
				a.show(blank(t, w, h))
				costs(a, 1, func(p *api.Picture) {
					p.Places[at] = narrow("\U0010ffff", dearest[i%2])[0]
					all(title)(p)
				})
			}
		}
	}
}

func TestP204EverySecondPlace(t *testing.T) {
	for _, size := range boundSizes {
		w, h := size[0], size[1]
		for from := range min(2, w*h) {
			for _, title := range []string{"", strings.Repeat("x", 128)} {
				a := begun(t, w, h)
				costs(a, (w*h-from+1)/2, func(p *api.Picture) {
					dear(p, from, 2)
					all(title)(p)
				})
				costs(a, (w*h-from+1)/2, func(p *api.Picture) {
					for i := from; i < len(p.Places); i += 2 {
						p.Places[i] = narrow(" ", api.Attr{})[0]
					}
				})
			}
		}
	}
}

func TestP204AllPlaces(t *testing.T) {
	for _, size := range boundSizes {
		w, h := size[0], size[1]
		a := begun(t, w, h)
		costs(a, w*h, func(p *api.Picture) { dear(p, 0, 1) })
		costs(a, w*h, func(p *api.Picture) {
			for i := range p.Places {
				p.Places[i].Attr.Fore--
			}
			all(strings.Repeat("x", 128))(p)
		})
		costs(a, w*h, func(p *api.Picture) {
			for i := range p.Places {
				p.Places[i] = narrow(" ", api.Attr{})[0]
			}
		})
	}
}

// Of letters of width 2 only one place differs where the letter alone is another one.
func TestP204WideLetters(t *testing.T) {
	for _, size := range [][2]int{{2, 1}, {5, 3}, {1000, 4}, {4, 1000}} {
		w, h := size[0], size[1]
		a := begun(t, w, h)
		letters := func(text string) func(*api.Picture) {
			return func(p *api.Picture) {
				for i := range w / 2 * h {
					put(p, 2*(i%(w/2)), i/(w/2), wide(text, dearest[i%2]))
				}
			}
		}
		costs(a, w/2*2*h, letters("\U00020000"))
		costs(a, w/2*h, letters("\U00020001"))
		costs(a, 1, func(p *api.Picture) { put(p, w/2*2-2, h-1, wide("\U00020002", dearest[(w/2*h-1)%2])) })
		costs(a, w/2*h, func(p *api.Picture) {
			for i := range w / 2 * h {
				p.Places[i/(w/2)*w+2*(i%(w/2))].Text = "\U0003fffd"
			}
			all(strings.Repeat("x", 128))(p)
		})
	}
}
