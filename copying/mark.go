package copying

import (
	"strings"

	"mullion/api"
)

func (m *Mode) beginSelection() api.Errno {
	m.setMark(m.cursor)
	return api.OK
}

func (m *Mode) setMark(p place) { m.mark, m.marked = p, true }

func (m *Mode) clearSelection() api.Errno {
	m.mark, m.marked, m.rectangle = place{}, false, false
	return api.OK
}

func (m *Mode) otherEnd() api.Errno {
	if !m.marked {
		return api.ErrMode
	}
	p := m.mark
	m.setMark(m.cursor)
	return m.goTo(p)
}

func (m *Mode) rectangleToggle() api.Errno {
	m.rectangle = !m.rectangle
	return api.OK
}

func (m *Mode) selectLine() api.Errno {
	return m.selectFrom(m.text.begin(m.cursor.line), m.text.end(m.cursor.line))
}

func (m *Mode) selectWord() api.Errno {
	if _, behind := m.text.letters(m.cursor); !isOfWord(behind) {
		return api.ErrTarget
	}
	within := place{m.cursor.line, m.cursor.letters + 1} // the word may begin at the cursor itself
	from, _ := first(those(m.text.ahead(within), m.text.beginsWord))
	to, _ := first(those(m.text.behind(m.cursor), m.text.endsWord))
	return m.selectFrom(from, to)
}

// selectFrom marks all between two places, no rectangle.
func (m *Mode) selectFrom(from place, to place) api.Errno {
	m.setMark(from)
	m.rectangle = false
	return m.goTo(to)
}

// ends are the earlier and the later one of mark and cursor.
func (m *Mode) ends() (place, place) {
	if m.cursor.isAheadOf(m.mark) {
		return m.cursor, m.mark
	}
	return m.mark, m.cursor
}

// selected tells from which number of letters up to which a line is selected.
func (m *Mode) selected(line int) (int, int) {
	a, b := m.ends()
	if !m.marked || line < a.line || b.line < line {
		return 0, 0
	}
	from, to := 0, len(m.text[line])
	if m.rectangle {
		return min(a.letters, b.letters, to), min(max(a.letters, b.letters), to)
	}
	if line == a.line {
		from = a.letters
	}
	if line == b.line {
		to = b.letters
	}
	return from, to
}

// Selection tells what is marked.
func (m *Mode) Selection() (string, bool) {
	if !m.marked {
		return "", false
	}
	var told strings.Builder
	a, b := m.ends()
	for line := a.line; line <= b.line; line++ {
		if line > a.line {
			told.WriteByte('\n')
		}
		from, to := m.selected(line)
		told.WriteString(string(m.text[line][from:to]))
	}
	return told.String(), true
}
