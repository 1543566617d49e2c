package vt

import "mullion/api"

// Resize gives it another size.
func (s *Screen) Resize(w int, h int) api.Errno {
	if !isSize(w, h) {
		return api.ErrSide
	}
	if s.Alternate() {
		s.sizeMain(s.main, s.h-1, h)
		s.main.fit(w, h)
	} else {
		s.y = s.sizeMain(&s.page, s.y, h)
	}
	s.page.fit(w, h)
	s.w, s.h = w, h
	s.cursor.stayWithin(w, h)
	s.waiting = false
	s.wholeRegion()
	s.eighthStops()
	return api.OK
}

// sizeMain moves rows between the main screen and the history; it answers the
// row in which the cursor stands then. There may be too few rows still.
func (s *Screen) sizeMain(p *page, y int, h int) int {
	for len(p.rows) > h && y < len(p.rows)-1 && p.rows[len(p.rows)-1].isBlank() {
		p.rows = p.rows[:len(p.rows)-1]
	}
	for len(p.rows) > h {
		s.past.push(p.rows[0])
		p.rows = p.rows[1:]
		y = max(y-1, 0)
	}
	back := min(h-len(p.rows), len(s.past.rows))
	rows := make([]row, back, h)
	for i := range rows {
		rows[back-1-i] = s.past.pop()
	}
	p.rows = append(rows, p.rows...)
	return y + back
}

// fit gives a page its size, at the bottom and at the right.
func (p *page) fit(w int, h int) {
	rows := make([]row, h)
	copy(rows, p.rows)
	for y, r := range rows {
		rows[y] = r.sized(w)
	}
	p.rows = rows
	p.kept.stayWithin(w, h)
}

// stayWithin puts a cursor to the last column and row, if it stands beyond.
func (c *cursor) stayWithin(w int, h int) {
	c.x, c.y = min(c.x, w-1), min(c.y, h-1)
}
