package vt

import (
	"strconv"
	"strings"

	"mullion/api"
)

// order is a control sequence that has ended. A number that is not given is 0:
// nowhere do the two mean something different.
type order struct {
	mark    byte // 0: none
	numbers [api.MaxParams]int
	count   int // of the numbers: 1 at least
	between string
	last    byte
}

const (
	maxNumber = 9999
	marks     = "<=>?"
	numbers   = "0123456789:;"
)

// readOrder reads what was gathered; false: it means nothing.
func readOrder(held []byte, last byte) (order, bool) {
	o := order{last: last}
	text := string(held)
	if text != "" && strings.IndexByte(marks, text[0]) >= 0 {
		o.mark, text = text[0], text[1:]
	}
	o.between = strings.TrimLeft(text, numbers)
	formed := o.readNumbers(text[:len(text)-len(o.between)]) && !strings.ContainsAny(o.between, marks+numbers)
	return o, formed && len(held) <= api.MaxSequence
}

// readNumbers reads digits with ; or : between; false: they are too many numbers.
func (o *order) readNumbers(text string) bool {
	o.count = 1
	for i := range len(text) {
		if text[i] <= '9' {
			n := &o.numbers[o.count-1]
			*n = min(*n*10+int(text[i]-'0'), maxNumber)
			continue
		}
		if o.count == api.MaxParams {
			return false
		}
		o.count++
	}
	return true
}

// atLeastOne is the number at a place; 1, if it is not given or 0.
func (o order) atLeastOne(i int) int { return max(o.numbers[i], 1) }

// obey does what a control sequence means.
func (s *Screen) obey(o order) {
	switch {
	case o.mark == 0 && o.between == "":
		s.obeyPlain(o)
	case o.mark == '?' && o.between == "":
		s.obeyMarked(o)
	case o.mark == 0 && o.between == "!" && o.last == 'p':
		s.softReset()
	}
}

func (s *Screen) obeyPlain(o order) {
	if s.move(o) || s.change(o) {
		s.waiting = false
		return
	}
	s.set(o)
}

// move does what an order means that moves the cursor; false: it is none.
func (s *Screen) move(o order) bool {
	n := o.atLeastOne(0)
	switch o.last {
	case 'E':
		s.x = 0
		fallthrough
	case 'B', 'e':
		s.goDown(n)
	case 'F':
		s.x = 0
		fallthrough
	case 'A':
		s.goUp(n)
	case 'C', 'a':
		s.goToColumn(s.x + n)
	case 'D':
		s.goToColumn(s.x - n)
	case 'G', '`':
		s.goToColumn(n - 1)
	case 'H', 'f':
		s.goToColumn(o.atLeastOne(1) - 1)
		fallthrough
	case 'd':
		s.goToRow(n - 1)
	case 'I':
		for range n {
			s.tab()
		}
	case 'Z':
		for range n {
			s.tabBack()
		}
	default:
		return false
	}
	return true
}

// change does what an order means that changes places or the region; false: it
// is none, or does nothing.
func (s *Screen) change(o order) bool {
	n := o.atLeastOne(0)
	here, room := s.rows[s.y], s.w-s.x
	switch o.last {
	case 'J':
		return s.eraseScreen(o.numbers[0])
	case 'K':
		return s.eraseRow(o.numbers[0])
	case 'L':
		return s.shiftRows(n, false)
	case 'M':
		return s.shiftRows(n, true)
	case 'r':
		return s.setRegion(n, o.numbers[1])
	case '@':
		here.putIn(s.x, min(n, room), s.erased())
	case 'P':
		here.takeOut(s.x, min(n, room), s.erased())
	case 'X':
		here.span(s.x, s.x+min(n, room)).fill(s.erased())
	case 'S':
		s.scrollUp(n)
	case 'T':
		s.scrollDown(s.top, n)
	default:
		return false
	}
	return true
}

// set does what the other orders mean, which do not end the waiting for their
// own sake.
func (s *Screen) set(o order) {
	switch o.last {
	case 'b':
		s.repeat(o.atLeastOne(0))
	case 'g':
		s.clearStops(o.numbers[0])
	case 'h', 'l':
		for i := range o.count {
			s.setMode(o.numbers[i], o.last == 'h')
		}
	case 'm':
		s.colour(o)
	case 'n', 'c':
		s.report(o)
	case 's':
		s.kept = s.cursor
		s.waiting = false
	case 'u':
		s.cursor = s.kept
	}
}

// report sends back what an order asks for.
func (s *Screen) report(o order) {
	number := o.numbers[0]
	switch {
	case o.last == 'c' && number == 0:
		s.send("\x1b[?1;2c")
	case o.last == 'n' && number == 5:
		s.send("\x1b[0n")
	case o.last == 'n' && number == 6:
		s.send("\x1b[" + strconv.Itoa(s.y-s.firstRow()+1) + ";" + strconv.Itoa(s.x+1) + "R")
	}
}

// maxAnswer is how many bytes the answer may have.
const maxAnswer = 4096

// send lays a text into the answer, unless that would be too long then.
func (s *Screen) send(text string) {
	if len(s.answer)+len(text) <= maxAnswer {
		s.answer = append(s.answer, text...)
	}
}
