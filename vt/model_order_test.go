package vt

import (
	"fmt"
	"slices"
	"strings"

	"mullion/api"
)

// endsWaiting are the orders behind which nothing waits, unless they do nothing.
const endsWaiting = "ABeCaDEFG`HfdIZJKLM@PXSTrs"

// number is a number of an order; instead, if it is not given.
func number(numbers []int, i, instead int) int {
	if i < len(numbers) && numbers[i] >= 0 {
		return numbers[i]
	}
	return instead
}

// order is the table of the section D.
func (p *paper) order(last string, numbers []int) {
	n, zero := max(number(numbers, 0, 1), 1), number(numbers, 0, 0)
	row := p.rows[p.y]
	inRegion := p.top <= p.y && p.y <= p.bottom
	if strings.Contains("JK", last) && zero > 2 && !(last == "J" && zero == 3) || strings.Contains("LM", last) && !inRegion {
		return
	}
	if last == "r" {
		p.orderRegion(n, number(numbers, 1, 0))
		return
	}
	switch last {
	case "A", "B", "e", "E", "F":
		p.orderRows(last, n)
	case "C", "a":
		p.x = min(p.x+n, p.w-1)
	case "D":
		p.x = max(p.x-n, 0)
	case "G", "`":
		p.x = min(n, p.w) - 1
	case "H", "f":
		p.toRow(n)
		p.x = min(max(number(numbers, 1, 1), 1), p.w) - 1
	case "d":
		p.toRow(n)
	case "I":
		for range min(n, p.w) {
			p.x = p.stopBehind(p.x)
		}
	case "Z":
		for range min(n, p.w) {
			p.x = p.stopAhead(p.x)
		}
	case "J":
		p.orderErase(zero)
	case "K":
		p.orderEraseRow(zero)
	case "L":
		p.sink(p.y, n)
		p.x = 0
	case "M":
		p.up(p.y, n, false)
		p.x = 0
	case "@":
		p.putIn(n)
	case "P":
		n = min(n, p.w-p.x)
		p.lay(p.y, row[:p.x], row[p.x+n:], p.erasedCells(n))
	case "X":
		n = min(n, p.w-p.x)
		p.lay(p.y, row[:p.x], p.erasedCells(n), row[p.x+n:])
	case "S":
		p.up(p.top, n, p.top == 0 && !p.alternate)
	case "T":
		p.sink(p.top, n)
	case "s":
		p.keep()
	default:
		p.calmOrder(last, n, zero, numbers)
	}
	if strings.Contains(endsWaiting, last) {
		p.waiting = false
	}
}

// calmOrder is those of the table that do not end the waiting themselves.
func (p *paper) calmOrder(last string, n, zero int, numbers []int) {
	switch last {
	case "u":
		p.comeBack()
	case "b":
		for range n {
			p.letter(p.latest)
		}
	case "g":
		if zero == 3 {
			p.stops = map[int]bool{}
		} else if zero == 0 {
			delete(p.stops, p.x)
		}
	case "h", "l":
		for _, n := range numbers {
			if n == 4 || n == 20 {
				p.modes[fmt.Sprint(n)] = last == "h"
			}
		}
	case "m":
		p.dress(numbers)
	case "n", "c":
		row := p.y + 1
		if p.six {
			row = p.y - p.top + 1
		}
		back := map[string]string{"n5": "\x1b[0n", "n6": fmt.Sprintf("\x1b[%d;%dR", row, p.x+1), "c0": "\x1b[?1;2c"}[fmt.Sprint(last, zero)]
		if len(p.answer+back) <= 4096 {
			p.answer += back
		}
	}
}

func (p *paper) orderRows(last string, n int) {
	if strings.Contains("AF", last) {
		for range n {
			if p.y != p.top && p.y > 0 {
				p.y--
			}
		}
	} else {
		for range n {
			if p.y != p.bottom && p.y < p.h-1 {
				p.y++
			}
		}
	}
	if strings.Contains("EF", last) {
		p.x = 0
	}
}

func (p *paper) orderRegion(top, bottom int) {
	if bottom == 0 {
		bottom = p.h
	}
	bottom = min(bottom, p.h)
	if top < bottom {
		p.top, p.bottom = top-1, bottom-1
		p.home()
	}
}

func (p *paper) orderErase(which int) {
	if which == 3 {
		p.past = nil
		return
	}
	for y := range p.rows {
		if which == 2 || which == 1 && y < p.y || which == 0 && y > p.y {
			p.rows[y] = p.erasedCells(p.w)
		}
	}
	p.orderEraseRow(which)
}

func (p *paper) orderEraseRow(which int) {
	row := p.rows[p.y]
	switch which {
	case 0:
		p.lay(p.y, row[:p.x], p.erasedCells(p.w-p.x))
	case 1:
		p.lay(p.y, p.erasedCells(p.x+1), row[p.x+1:])
	case 2:
		p.lay(p.y, p.erasedCells(p.w))
	}
}

// markNumbers are the marks by the numbers that let them join.
var markNumbers = map[int]int{
	1: api.MarkBold, 2: api.MarkDim, 3: api.MarkItalic, 4: api.MarkUnder, 5: api.MarkBlink, 7: api.MarkReverse, 8: api.MarkHidden, 9: api.MarkStrike,
}

// dress is the pen's part of the section E.
func (p *paper) dress(numbers []int) {
	list := slices.Clone(numbers)
	for i := range list {
		list[i] = max(list[i], 0)
	}
	for i := 0; i < len(list); i++ {
		n, left := list[i], list[i+1:]
		at := map[bool]*int{true: &p.pen.Fore, false: &p.pen.Back}[n == 38 || n/10 == 3 || n/10 == 9]
		switch {
		case n == 0:
			p.pen = api.Attr{}
		case n == 21:
			p.pen.Marks |= api.MarkUnder
		case n == 22:
			p.pen.Marks &^= api.MarkBold | api.MarkDim
		case n < 10:
			p.pen.Marks |= markNumbers[n]
		case n > 22 && n < 30:
			p.pen.Marks &^= markNumbers[n-20]
		case n == 38 || n == 48:
			taken := p.dressAny(at, left)
			if taken == 0 {
				return
			}
			i += taken
		case n == 39 || n == 49:
			*at = 0
		case n >= 30 && n < 50:
			*at = n%10 + 1
		case n >= 90 && n < 98 || n >= 100 && n < 108:
			*at = n%10 + 9
		}
	}
}

// dressAny is what 38 and 48 do; it tells how many numbers they took, 0: all.
func (p *paper) dressAny(at *int, left []int) int {
	if len(left) > 1 && left[0] == 5 {
		if left[1] < 256 {
			*at = left[1] + 1
		}
		return 2
	}
	if len(left) > 3 && left[0] == 2 {
		if slices.Max(left[1:4]) < 256 {
			*at = 257 + 65536*left[1] + 256*left[2] + left[3]
		}
		return 4
	}
	return 0
}
