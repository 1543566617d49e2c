package scene

import (
	"strings"

	"mullion/api"
)

// sheet is what can be laid onto the stage.
type sheet interface {
	size() (int, int)
	glyph(x, y int) api.Glyph
}

// stage is the picture that is being made.
type stage struct{ api.Picture }

// newStage has no cursor to be seen, until it follows one.
func newStage(w, h int) *stage {
	return &stage{api.Picture{W: w, H: h, Places: make([]api.Glyph, w*h), Hidden: true}}
}

// lay lays a sheet with its left upper corner at that of the box, and cuts
// off what lies beyond the box.
func (s *stage) lay(in box, what sheet) {
	w, h := what.size()
rows:
	for y := range in.h {
		for x := range in.w {
			switch {
			case y >= h:
				break rows
			case x >= w:
				continue rows
			}
			g := what.glyph(x, y)
			if g.Width == 2 && x == in.w-1 {
				g = blank(g.Attr)
			}
			s.Places[s.W*(in.y+y)+in.x+x] = g
		}
	}
}

// follow takes the title of a picture that is laid, and its cursor, if that
// is in the box.
func (s *stage) follow(in box, p api.Picture) {
	s.Title = strings.Clone(p.Title)
	if x, y := in.x+p.X, in.y+p.Y; in.has(x, y) {
		s.X, s.Y, s.Hidden = x, y, p.Hidden
	}
}

// told is the picture, its letters in one text of its own, so that it shares
// nothing with the pictures that were laid.
func (s *stage) told() api.Picture {
	var all strings.Builder
	for _, g := range s.Places {
		all.WriteString(g.Text)
	}
	rest := all.String()
	for i, g := range s.Places {
		s.Places[i].Text, rest = rest[:len(g.Text)], rest[len(g.Text):]
	}
	return s.Picture
}
