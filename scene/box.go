package scene

import "mullion/api"

// box is a rectangle of places. Without any place its w or h is 0 or less.
type box struct{ x, y, w, h int }

func boxOf(c api.Cell) box { return box{c.X, c.Y, c.W, c.H} }

func (b box) has(x, y int) bool {
	return b.x <= x && x < b.x+b.w && b.y <= y && y < b.y+b.h
}

// within is what of the box lies in a part that begins at (0, 0), as no box
// begins ahead of it. So the box is cut off at the right and below alone.
func (b box) within(part box) box {
	b.w = min(b.w, part.w-b.x)
	b.h = min(b.h, part.h-b.y)
	return b
}

// wider is the box with one place more on each side.
func (b box) wider() box { return box{b.x - 1, b.y - 1, b.w + 2, b.h + 2} }

func (b box) size() (int, int) { return b.w, b.h }
