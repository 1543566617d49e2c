package vt

// control does what a byte below 20 means.
func (s *Screen) control(b byte) {
	switch b {
	case bell:
		s.bells++
	case '\b':
		s.goToColumn(s.x - 1)
		s.waiting = false
	case '\t':
		s.tab()
		s.waiting = false
	case '\n', '\v', '\f':
		if s.newLine {
			s.x = 0
		}
		s.lineFeed()
	case '\r':
		s.x, s.waiting = 0, false
	case 0x0e:
		s.used = 1
	case 0x0f:
		s.used = 0
	}
}

// escaped does what the end of an escape means, behind what was gathered.
func (s *Screen) escaped(b byte) {
	switch len(s.held) {
	case 0:
		s.bareEscape(b)
	case 1:
		s.setEscape(s.held[0], b)
	}
}

// bareEscape does what an escape without intermediate bytes means.
func (s *Screen) bareEscape(b byte) {
	switch b {
	case '7':
		s.kept = s.cursor
	case '8':
		s.cursor = s.kept
	case 'E':
		s.x = 0
		fallthrough
	case 'D':
		s.lineFeed()
	case 'M':
		s.reverseFeed()
	case 'H':
		s.stops[s.x] = true
	case 'c':
		s.reset()
	}
}

// setEscape does what an escape with one intermediate byte means.
func (s *Screen) setEscape(between byte, b byte) {
	switch between {
	case '(':
		s.lines[0] = b == '0'
	case ')':
		s.lines[1] = b == '0'
	case '#':
		if b == '8' {
			s.fillWithE()
		}
	}
}

func (s *Screen) fillWithE() {
	for _, r := range s.rows {
		r.fill(glyph{letter: 'E', width: 1})
	}
	s.wholeRegion()
	s.x, s.y, s.waiting = 0, 0, false
}
