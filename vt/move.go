package vt

// goToColumn goes to a column, or to the nearest one that there is.
func (s *Screen) goToColumn(x int) { s.x = min(max(x, 0), s.w-1) }

// goToRow goes to a row, counted as the mode 6 says.
func (s *Screen) goToRow(y int) {
	last := s.h - 1
	if s.origin {
		last = s.bottom
	}
	s.y = min(s.firstRow()+y, last)
}

// firstRow is the row from which rows are counted.
func (s *Screen) firstRow() int {
	if s.origin {
		return s.top
	}
	return 0
}

// goHome goes to the first row and column, as the mode 6 says.
func (s *Screen) goHome() {
	s.goToColumn(0)
	s.goToRow(0)
	s.waiting = false
}

// goUp goes rows up: not out of the region, nor off the screen.
func (s *Screen) goUp(n int) {
	first := 0
	if s.y >= s.top {
		first = s.top
	}
	s.y = max(s.y-n, first)
}

// goDown goes rows down: not out of the region, nor off the screen.
func (s *Screen) goDown(n int) {
	last := s.h - 1
	if s.y <= s.bottom {
		last = s.bottom
	}
	s.y = min(s.y+n, last)
}

// eighth is how far the tab stops are apart.
const eighth = 8

func (s *Screen) eighthStops() {
	s.stops = make([]bool, s.w)
	for x := eighth; x < s.w; x += eighth {
		s.stops[x] = true
	}
}

// tab goes to the next tab stop, or to the last column.
func (s *Screen) tab() {
	for s.x < s.w-1 {
		s.x++
		if s.stops[s.x] {
			return
		}
	}
}

// tabBack goes to the tab stop to the left, or to the first column.
func (s *Screen) tabBack() {
	for s.x > 0 {
		s.x--
		if s.stops[s.x] {
			return
		}
	}
}

func (s *Screen) clearStops(which int) {
	switch which {
	case 0:
		s.stops[s.x] = false
	case 3:
		clear(s.stops)
	}
}
