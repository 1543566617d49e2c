package vt

func (s *Screen) wholeRegion() { s.top, s.bottom = 0, s.h-1 }

// setRegion takes rows that are counted from 1 on; false: they are no region.
func (s *Screen) setRegion(top int, bottom int) bool {
	if bottom == 0 || bottom > s.h {
		bottom = s.h
	}
	if top >= bottom {
		return false
	}
	s.top, s.bottom = top-1, bottom-1
	s.goHome()
	return true
}

func (s *Screen) lineFeed() {
	if s.y == s.bottom {
		s.scrollUp(1)
	} else {
		s.y = min(s.y+1, s.h-1)
	}
	s.waiting = false
}

// reverseFeed is a line feed upwards.
func (s *Screen) reverseFeed() {
	if s.y == s.top {
		s.scrollDown(s.top, 1)
	} else {
		s.y = max(s.y-1, 0)
	}
	s.waiting = false
}

// scrollUp moves the region's rows up; what leaves the main screen at its top
// joins the history.
func (s *Screen) scrollUp(n int) {
	joins := s.top == 0 && !s.Alternate()
	for range min(n, s.bottom-s.top+1) {
		if joins {
			s.past.push(s.rows[0])
		}
		s.dropRows(s.top, 1)
	}
}

// dropRows lets rows from a row on go, down to the region's bottom; those below
// move up.
func (s *Screen) dropRows(top int, n int) {
	moving := s.rows[top : s.bottom+1]
	for range min(n, len(moving)) {
		gone := moving[0]
		copy(moving, moving[1:])
		gone.fill(s.erased())
		moving[len(moving)-1] = gone
	}
}

// scrollDown lets rows at the region's bottom go; those above, from a row on,
// move down.
func (s *Screen) scrollDown(top int, n int) {
	moving := s.rows[top : s.bottom+1]
	for range min(n, len(moving)) {
		gone := moving[len(moving)-1]
		copy(moving[1:], moving)
		gone.fill(s.erased())
		moving[0] = gone
	}
}

// shiftRows lets rows at the cursor go, or come in; false: the cursor is not in
// the region.
func (s *Screen) shiftRows(n int, up bool) bool {
	if s.y < s.top || s.y > s.bottom {
		return false
	}
	if up {
		s.dropRows(s.y, n)
	} else {
		s.scrollDown(s.y, n)
	}
	s.x = 0
	return true
}

// Which part is erased, as J and K say it.
const (
	eraseBehind = iota // from the cursor on
	eraseAhead         // up to the cursor
	eraseAll
	eraseHistory
)

// eraseScreen erases a part of the screen; false: it is none.
func (s *Screen) eraseScreen(part int) bool {
	switch part {
	case eraseBehind:
		s.eraseRows(s.y+1, s.h)
	case eraseAhead:
		s.eraseRows(0, s.y)
	case eraseAll:
		s.eraseRows(0, s.h)
	case eraseHistory:
		s.past.rows = nil
		return true
	}
	return s.eraseRow(part)
}

func (s *Screen) eraseRows(from int, to int) {
	for _, r := range s.rows[from:to] {
		r.fill(s.erased())
	}
}

// eraseRow erases a part of the cursor's row; false: it is none.
func (s *Screen) eraseRow(part int) bool {
	from, to := 0, s.w
	switch part {
	case eraseBehind:
		from = s.x
	case eraseAhead:
		to = s.x + 1
	case eraseAll:
	default:
		return false
	}
	s.rows[s.y].span(from, to).fill(s.erased())
	return true
}
