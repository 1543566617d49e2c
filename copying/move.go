package copying

import (
	"mullion/api"
	"mullion/octal"
)

// goTo moves the cursor, and its letters are the column wished for then.
func (m *Mode) goTo(p place) api.Errno {
	m.wished = p.letters
	m.stand(p)
	return api.OK
}

// goToLine moves the cursor, and the column wished for stays.
func (m *Mode) goToLine(line int) api.Errno {
	p := m.text.end(line)
	p.letters = min(p.letters, m.wished)
	m.stand(p)
	return api.OK
}

// stand moves the cursor, and the view as far as it has to go with it.
func (m *Mode) stand(p place) {
	m.cursor = p
	m.top = min(max(m.top, p.line-m.h+1), p.line)
}

// lastTop is the greatest that the view's first line may be.
func (m *Mode) lastTop() int { return max(0, len(m.text)-m.h) }

// bottom is the view's last line.
func (m *Mode) bottom() int { return min(m.top+m.h-1, m.text.last()) }

func (m *Mode) cursorLeft() api.Errno {
	if p, ok := first(m.text.ahead(m.cursor)); ok {
		m.goTo(p)
	}
	return api.OK
}

func (m *Mode) cursorRight() api.Errno {
	if p, ok := first(m.text.behind(m.cursor)); ok {
		m.goTo(p)
	}
	return api.OK
}

// In the first and in the last line the cursor already has the letters that it
// would be given.

func (m *Mode) cursorUp() api.Errno { return m.goToLine(max(m.cursor.line-1, 0)) }

func (m *Mode) cursorDown() api.Errno { return m.goToLine(min(m.cursor.line+1, m.text.last())) }

func (m *Mode) startOfLine() api.Errno { return m.goTo(m.text.begin(m.cursor.line)) }

func (m *Mode) endOfLine() api.Errno { return m.goTo(m.text.end(m.cursor.line)) }

func (m *Mode) backToIndentation() api.Errno {
	p := m.text.begin(m.cursor.line)
	for m.text.letter(p.line, p.letters) == blank {
		p.letters++
	}
	return m.goTo(p)
}

func (m *Mode) historyTop() api.Errno { return m.goTo(m.text.begin(0)) }

func (m *Mode) historyBottom() api.Errno { return m.goTo(m.text.begin(m.text.last())) }

func (m *Mode) topLine() api.Errno { return m.goTo(m.text.begin(m.top)) }

func (m *Mode) middleLine() api.Errno {
	lines := m.bottom() - m.top + 1
	return m.goTo(m.text.begin(m.top + lines/2))
}

func (m *Mode) bottomLine() api.Errno { return m.goTo(m.text.begin(m.bottom())) }

func (m *Mode) gotoLine(argument string) api.Errno {
	line, ok := octal.Number(argument)
	if !ok {
		return api.ErrValue
	}
	return m.goTo(m.text.begin(min(line, m.text.last())))
}

func (m *Mode) pageUp() api.Errno { return m.page(-m.wholePage()) }

func (m *Mode) pageDown() api.Errno { return m.page(m.wholePage()) }

func (m *Mode) halfpageUp() api.Errno { return m.page(-m.halfPage()) }

func (m *Mode) halfpageDown() api.Errno { return m.page(m.halfPage()) }

func (m *Mode) wholePage() int { return max(m.h-1, 1) }

func (m *Mode) halfPage() int { return max(m.h/2, 1) }

// page moves the view and the cursor by that many lines, each as far as it may.
func (m *Mode) page(lines int) api.Errno {
	m.shift(lines)
	return m.goToLine(min(max(m.cursor.line+lines, 0), m.text.last()))
}

func (m *Mode) scrollUp() api.Errno { return m.scroll(-1) }

func (m *Mode) scrollDown() api.Errno { return m.scroll(1) }

// scroll moves the view, and the cursor only where it would be out of it.
func (m *Mode) scroll(lines int) api.Errno {
	m.shift(lines)
	return m.goToLine(min(max(m.cursor.line, m.top), m.bottom()))
}

// shift moves the view alone.
func (m *Mode) shift(lines int) { m.top = min(max(m.top+lines, 0), m.lastTop()) }

func (m *Mode) nextWord() api.Errno {
	words := those(m.text.behind(m.cursor), m.text.beginsWord)
	return m.goTo(firstOr(words, m.text.end(m.text.last())))
}

func (m *Mode) nextWordEnd() api.Errno {
	words := those(m.text.behind(m.cursor), m.text.endsWord)
	return m.goTo(firstOr(words, m.text.end(m.text.last())))
}

func (m *Mode) previousWord() api.Errno {
	words := those(m.text.ahead(m.cursor), m.text.beginsWord)
	return m.goTo(firstOr(words, m.text.begin(0)))
}

// A line without letters has one place alone: if the cursor stands there, the
// walk does not come by it.

func (m *Mode) nextParagraph() api.Errno {
	paragraphs := those(m.text.behind(m.cursor), m.text.isBare)
	return m.goTo(firstOr(paragraphs, m.text.end(m.text.last())))
}

func (m *Mode) previousParagraph() api.Errno {
	paragraphs := those(m.text.ahead(m.cursor), m.text.isBare)
	return m.goTo(firstOr(paragraphs, m.text.begin(0)))
}
