package copying

import (
	"iter"

	"mullion/api"
)

// search is what is sought, and whether backward.
type search struct {
	needle
	backward bool
}

// jump is the letter that is jumped to, and whether backward.
type jump struct {
	letter   rune
	backward bool
}

func (m *Mode) searchForward(argument string) api.Errno { return m.searchFor(argument, false) }

func (m *Mode) searchBackward(argument string) api.Errno { return m.searchFor(argument, true) }

func (m *Mode) searchFor(argument string, backward bool) api.Errno {
	letters := lettersOf(argument)
	if len(letters) == 0 {
		return api.ErrValue
	}
	m.search = search{newNeedle(letters), backward}
	return m.seek(m.search)
}

func (m *Mode) searchAgain() api.Errno { return m.seek(m.search) }

func (m *Mode) searchReverse() api.Errno {
	s := m.search
	s.backward = !s.backward
	return m.seek(s)
}

// seek goes to the next place at which the letters stand; where there is none
// it goes round.
func (m *Mode) seek(s search) api.Errno {
	if len(s.letters) == 0 {
		return api.ErrMode
	}
	found, ok := first(m.standing(s, m.cursor))
	if !ok {
		found, ok = first(m.standing(s, m.outside(s)))
	}
	if !ok {
		return api.ErrTarget
	}
	return m.goTo(found)
}

// standing yields the places at which the letters stand, as a search from p on
// comes by them.
func (m *Mode) standing(s search, p place) iter.Seq[place] {
	if s.backward {
		return m.text.standAhead(p, s.needle)
	}
	return m.text.standBehind(p, s.needle)
}

// outside is from where on a search comes by all places.
func (m *Mode) outside(s search) place {
	if s.backward {
		return place{m.text.last() + 1, 0}
	}
	return place{-1, 0}
}

func (m *Mode) jumpForward(argument string) api.Errno { return m.jumpTo(argument, false) }

func (m *Mode) jumpBackward(argument string) api.Errno { return m.jumpTo(argument, true) }

func (m *Mode) jumpTo(argument string, backward bool) api.Errno {
	letters := lettersOf(argument)
	if len(letters) != 1 {
		return api.ErrValue
	}
	m.jump = jump{letters[0], backward}
	return m.leap(m.jump)
}

func (m *Mode) jumpAgain() api.Errno { return m.leap(m.jump) }

func (m *Mode) jumpReverse() api.Errno {
	j := m.jump
	j.backward = !j.backward
	return m.leap(j)
}

// leap goes to the next place of the line that lies ahead of the letter.
func (m *Mode) leap(j jump) api.Errno {
	if j.letter == noLetter {
		return api.ErrMode
	}
	way := m.text.behind(m.cursor)
	if j.backward {
		way = m.text.ahead(m.cursor)
	}
	for p := range way {
		if p.line != m.cursor.line {
			break
		}
		if _, behind := m.text.letters(p); behind == j.letter {
			return m.goTo(p)
		}
	}
	return api.ErrTarget
}
