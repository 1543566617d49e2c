package vt

import (
	"strings"
	"unicode/utf8"

	"mullion/api"
)

// state says what the next byte is part of.
type state int

const (
	ground    state = iota
	escape          // behind ESC
	sequence        // a control sequence
	titleText       // a text for the title
	deadText        // a text for nobody
)

// The bytes that mean something in states beside ground.
const (
	bell       = 0x07
	cancel     = 0x18
	substitute = 0x1a
	esc        = 0x1b
	del        = 0x7f
)

// What may stand ahead of the title in its text.
const (
	iconAndTitle = "0;"
	titleAlone   = "2;"
)

// reader is what was begun.
type reader struct {
	state state
	held  []byte // what was gathered: never more than can matter
	begun character
}

// Feed takes bytes.
func (s *Screen) Feed(data string) {
	for i := range len(data) {
		s.take(data[i])
	}
}

func (s *Screen) take(b byte) {
	if s.begun.have > 0 {
		if s.begun.goesOn(b) {
			s.goOn(b)
			return
		}
		s.begun = character{}
		s.write(utf8.RuneError)
	}
	switch b {
	case cancel, substitute:
		s.enter(ground)
	case esc:
		if s.state == titleText {
			s.setTitle()
		}
		s.enter(escape)
	default:
		s.takeInside(b)
	}
}

// takeInside takes a byte that does not leave every state.
func (s *Screen) takeInside(b byte) {
	switch {
	case s.state == deadText:
	case s.state == titleText:
		s.takeTitle(b)
	case b < space:
		s.control(b)
	case b == del:
	case b > del:
		s.enter(ground)
		s.begin(b)
	case s.state == escape:
		s.takeEscape(b)
	case s.state == sequence:
		s.takeSequence(b)
	default:
		s.write(rune(b))
	}
}

// enter goes to a state with nothing gathered.
func (s *Screen) enter(next state) {
	s.state = next
	s.held = s.held[:0]
}

// gather keeps a byte, up to a limit: beyond it further ones change nothing.
func (s *Screen) gather(b byte, limit int) {
	if len(s.held) < limit {
		s.held = append(s.held, b)
	}
}

// takeEscape takes a byte from 20 to 7E behind ESC.
func (s *Screen) takeEscape(b byte) {
	next := begins(b)
	switch {
	case b < '0':
		s.gather(b, api.MaxSequence+1)
	case len(s.held) == 0 && next != ground:
		s.enter(next)
	default:
		s.state = ground
		s.escaped(b)
	}
}

// begins is the state that a byte right behind ESC begins; ground: none.
func begins(b byte) state {
	switch b {
	case '[':
		return sequence
	case ']':
		return titleText
	case 'P', 'X', '^', '_':
		return deadText
	}
	return ground
}

// takeSequence takes a byte from 20 to 7E of a control sequence. One byte more
// than may be is gathered, so that it is seen that there were too many.
func (s *Screen) takeSequence(b byte) {
	if b < '@' {
		s.gather(b, api.MaxSequence+1)
		return
	}
	s.state = ground
	if o, ok := readOrder(s.held, b); ok {
		s.obey(o)
	}
}

func (s *Screen) takeTitle(b byte) {
	switch {
	case b == bell:
		s.setTitle()
		s.enter(ground)
	case b >= space && b != del:
		s.gather(b, len(titleAlone)+api.MaxTitle)
	}
}

// setTitle takes the title from the text that has ended.
func (s *Screen) setTitle() {
	text := string(s.held)
	for _, head := range []string{iconAndTitle, titleAlone} {
		if title, ok := strings.CutPrefix(text, head); ok {
			s.title = title
		}
	}
}

// character is one of several bytes that has begun.
type character struct {
	bytes      [utf8.UTFMax]byte
	have, want int
}

// begin takes a byte of 80 or above that goes on with nothing.
func (s *Screen) begin(b byte) {
	want := lengthOf(b)
	if want == 0 {
		s.write(utf8.RuneError)
		return
	}
	s.begun = character{bytes: [utf8.UTFMax]byte{b}, have: 1, want: want}
}

// lengthOf is how many bytes a character has that begins so; 0: none does.
func lengthOf(first byte) int {
	switch {
	case 0xc2 <= first && first <= 0xdf:
		return 2
	case 0xe0 <= first && first <= 0xef:
		return 3
	case 0xf0 <= first && first <= 0xf4:
		return 4
	}
	return 0
}

// goesOn tells whether a byte may be the next one. The second byte's bounds
// keep out what could be written shorter, what is no code point, and surrogates.
func (c character) goesOn(b byte) bool {
	low, high := byte(0x80), byte(0xbf)
	if c.have == 1 {
		switch c.bytes[0] {
		case 0xe0:
			low = 0xa0
		case 0xed:
			high = 0x9f
		case 0xf0:
			low = 0x90
		case 0xf4:
			high = 0x8f
		}
	}
	return low <= b && b <= high
}

// goOn takes the next byte of the begun character.
func (s *Screen) goOn(b byte) {
	c := &s.begun
	c.bytes[c.have] = b
	c.have++
	if c.have < c.want {
		return
	}
	letter, _ := utf8.DecodeRune(c.bytes[:c.have])
	s.begun = character{}
	s.write(letter)
}
