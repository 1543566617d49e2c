package vt

import "mullion/api"

// write writes a letter at the cursor. What is no letter, or takes no place,
// is not written.
func (s *Screen) write(letter rune) {
	if Width(letter) < 1 {
		return
	}
	shown := s.exchanged(letter)
	g := glyph{letter: shown, width: Width(shown), attr: s.pen}
	if s.waiting && s.wrap {
		s.nextLine()
	}
	if g.width == 2 && s.x == s.w-1 {
		if !s.wrap || s.w == 1 {
			return
		}
		s.nextLine()
	}
	s.last = letter
	s.place(g)
	s.x, s.waiting = s.x+g.width, false
	if s.x >= s.w {
		s.x, s.waiting = s.w-1, s.wrap
	}
}

// nextLine goes to where a row's text goes on.
func (s *Screen) nextLine() {
	s.x = 0
	s.lineFeed()
}

// place lays a glyph onto the places from the cursor on; there is room for it.
func (s *Screen) place(g glyph) {
	r := s.rows[s.y]
	if s.insert {
		r.putIn(s.x, g.width, s.erased())
	}
	places := r.span(s.x, s.x+g.width)
	places.fill(right(g.attr))
	places[0] = g
}

// erased is what an erased place holds.
func (s *Screen) erased() glyph { return blank(api.Attr{Back: s.pen.Back}) }

// exchanged is the letter for which another one stands in the set of lines.
func (s *Screen) exchanged(letter rune) rune {
	if !s.lines[s.used] {
		return letter
	}
	switch letter {
	case 'j':
		return 0x2518
	case 'k':
		return 0x2510
	case 'l':
		return 0x250c
	case 'm':
		return 0x2514
	case 'n':
		return 0x253c
	case 'q':
		return 0x2500
	case 't':
		return 0x251c
	case 'u':
		return 0x2524
	case 'v':
		return 0x2534
	case 'w':
		return 0x252c
	case 'x':
		return 0x2502
	case 'a':
		return 0x2592
	case 'f':
		return 0xb0
	case 'g':
		return 0xb1
	case '~':
		return 0xb7
	}
	return letter
}

// repeat writes the last letter n times more.
func (s *Screen) repeat(n int) {
	for range n {
		s.write(s.last)
	}
}
