package lex

import "strings"

// ended is what stands behind the line's last byte: no byte's value.
const ended = -1

// A reader is a line on its way to its commands.
type reader struct {
	line     string
	at       int // the place of the next byte
	word     strings.Builder
	command  []string
	commands [][]string
	words    int // of all commands, since their limit is on the whole line
}

// read is the machine of a line: each label is a state, in which the next byte
// says where to go. It answers the place of the piece that does not end, and
// false; or true, if there is none.
func (r *reader) read() (int, bool) {
ahead:
	switch r.next() {
	case ended:
		goto done
	case ' ', '\t':
		r.skip()
		goto ahead
	case ';':
		r.skip()
		r.endCommand()
		goto ahead
	case '#':
		if r.isRemark() {
			goto done
		}
	}

word:
	switch r.next() {
	case ended, ' ', '\t', ';':
		r.endWord()
		goto ahead
	case '\'', '"', '\\':
		if begin := r.at; !r.piece() {
			return begin, false
		}
		goto word
	}
	r.take()
	goto word

done:
	r.endCommand()
	return 0, true
}

// piece is the machine of a part of a word that a quote or a backslash begins;
// it answers whether that part ends.
func (r *reader) piece() bool {
	switch r.skip() {
	case '\'':
		goto single
	case '"':
		goto double
	default:
		goto bare
	}

bare:
	if r.next() == ended {
		goto fault
	}
	r.take()
	return true

single:
	switch r.next() {
	case ended:
		goto fault
	case '\'':
		r.skip()
		return true
	}
	r.take()
	goto single

double:
	switch r.next() {
	case ended:
		goto fault
	case '"':
		r.skip()
		return true
	case '\\':
		r.skip()
		goto escape
	}
	r.take()
	goto double

escape:
	if r.next() == ended {
		goto fault
	}
	r.takeEscaped()
	goto double

fault:
	return false
}

// next answers the next byte, which stays the next one.
func (r *reader) next() int {
	if r.at == len(r.line) {
		return ended
	}
	return int(r.line[r.at])
}

// skip answers the next byte and leaves it behind.
func (r *reader) skip() int {
	b := r.next()
	r.at++
	return b
}

// take makes the next byte the word's.
func (r *reader) take() {
	r.word.WriteByte(r.line[r.at])
	r.at++
}

// takeEscaped makes the byte the word's for which the bytes behind a backslash
// stand; there is one at least.
func (r *reader) takeEscaped() {
	value, length := escaped(r.line[r.at:])
	r.word.WriteByte(value)
	r.at += length
}

// isRemark tells whether the # that is next begins a remark: #{ begins a word,
// since a format does.
func (r *reader) isRemark() bool {
	return !strings.HasPrefix(r.line[r.at:], "#{")
}

// endWord lays the word to its command; the next word has memory of its own.
func (r *reader) endWord() {
	r.command = append(r.command, r.word.String())
	r.word.Reset()
	r.words++
}

// endCommand lays the command to the others, if it has a word.
func (r *reader) endCommand() {
	if len(r.command) > 0 {
		r.commands = append(r.commands, r.command)
	}
	r.command = nil
}

// escaped answers the byte for which the beginning of a text stands behind a
// backslash, and how many bytes that beginning has. The text is not empty.
func escaped(text string) (byte, int) {
	if value, ok := octalByte(text); ok {
		return value, 3
	}
	switch text[0] {
	case 'n':
		return '\n', 1
	case 't':
		return '\t', 1
	case 'r':
		return '\r', 1
	case 'e':
		return 27, 1
	}
	return text[0], 1
}

// octalByte answers the value of the three octal digits with which a text
// begins, if it does so, and if the value is a byte's.
func octalByte(text string) (byte, bool) {
	if len(text) < 3 {
		return 0, false
	}
	value := 0
	for i := 0; i < 3; i++ {
		if text[i] < '0' || text[i] > '7' {
			return 0, false
		}
		value = value*8 + int(text[i]-'0')
	}
	return byte(value), value <= 255
}
