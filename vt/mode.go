package vt

// setMode turns a mode without a mark on or off.
func (s *Screen) setMode(number int, on bool) {
	switch number {
	case 4:
		s.insert = on
	case 20:
		s.newLine = on
	}
}

// obeyMarked does what an order with the mark ? means.
func (s *Screen) obeyMarked(o order) {
	if o.last != 'h' && o.last != 'l' {
		return
	}
	for i := range o.count {
		s.setMarkedMode(o.numbers[i], o.last == 'h')
	}
}

func (s *Screen) setMarkedMode(number int, on bool) {
	switch number {
	case 1:
		s.app = on
	case 6:
		s.origin = on
		s.goHome()
	case 7:
		s.wrap = on
		s.waiting = s.waiting && on
	case 25:
		s.hidden = !on
	case 47, 1047:
		s.switchPage(on)
	case 1048:
		s.keepOrTake(on)
	case 1049:
		s.switchWithCursor(on)
	case 2004:
		s.bracket = on
	}
}

// keepOrTake keeps the cursor, or lets the kept one come back.
func (s *Screen) keepOrTake(keep bool) {
	if keep {
		s.kept = s.cursor
	} else {
		s.cursor = s.kept
	}
}

// switchPage shows the alternate screen, or the main one again, unless it is
// shown.
func (s *Screen) switchPage(alternate bool) {
	if alternate == s.Alternate() {
		return
	}
	if alternate {
		main := s.page
		s.main = &main
		s.page = page{rows: newRows(s.h, s.w, s.erased())}
	} else {
		s.page, s.main = *s.main, nil
	}
	s.waiting = false
}

// switchWithCursor does so too; the main screen keeps the cursor meanwhile.
func (s *Screen) switchWithCursor(alternate bool) {
	if alternate == s.Alternate() {
		return
	}
	if alternate {
		s.kept = s.cursor
	}
	s.switchPage(alternate)
	if !alternate {
		s.cursor = s.kept
	}
}

// softReset brings modes, region, pen and sets back to what they were at first.
func (s *Screen) softReset() {
	s.modes = modes{wrap: true, bracket: s.bracket}
	s.wholeRegion()
	s.cursor = cursor{x: s.x, y: s.y}
	s.kept = cursor{}
}
