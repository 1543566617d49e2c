// Package octal is layer 1: bytes as printable text and back; numbers, ids, names: see shared/doc/01-octal.md.
package octal

import (
	"strconv"
	"strings"

	"mullion/api"
)

const (
	backslash = 92
	percent   = 37
	blank     = 32
	tilde     = 126 // the last byte that a name may hold
)

// headBars are the bytes that no name begins with: in targets they say something else.
const headBars = " !$%+-=@^{"

var digits = [8]byte{'0', '1', '2', '3', '4', '5', '6', '7'}

// code is how an escaped byte is written: the backslash and three octal digits.
// It is an array so that two codes are held against each other by ==.
type code [4]byte

func codeOf(b byte) code {
	return code{backslash, digits[b>>6], digits[(b>>3)&7], digits[b&7]}
}

func appendCode(text []byte, b byte) []byte {
	c := codeOf(b)
	return append(text, c[:]...)
}

// byteOf reads a code; false: no byte is written so.
// The digits are taken on trust and the byte is written anew: where one was
// no octal digit, or all together were more than a byte, another code comes out.
func byteOf(c code) (byte, bool) {
	b := (c[1]&7)<<6 | (c[2]&7)<<3 | c[3]&7
	if codeOf(b) != c {
		return 0, false
	}
	return b, true
}

// firstCode takes the four bytes at the beginning of a text; false: it has fewer.
func firstCode(s string) (code, bool) {
	if len(s) < len(code{}) {
		return code{}, false
	}
	return code{s[0], s[1], s[2], s[3]}, true
}

func mustEscape(b byte) bool { return b < blank || b == backslash }

// firstEscaped reads the escaped byte at the beginning of a text; false: none is there,
// or one that stands as itself, so that it is never written as a code.
func firstEscaped(s string) (byte, bool) {
	c, ok := firstCode(s)
	if !ok {
		return 0, false
	}
	b, ok := byteOf(c)
	if !ok || !mustEscape(b) {
		return 0, false
	}
	return b, true
}

func appendEscaped(text []byte, s string) []byte {
	for i := 0; i < len(s); i++ {
		if mustEscape(s[i]) {
			text = appendCode(text, s[i])
		} else {
			text = append(text, s[i])
		}
	}
	return text
}

// appendPlain reads an escaped text; false: it is not the escaped form of any bytes.
func appendPlain(text []byte, s string) ([]byte, bool) {
	for i := 0; i < len(s); i++ {
		b := s[i]
		if mustEscape(b) {
			escaped, ok := firstEscaped(s[i:])
			if !ok {
				return nil, false
			}
			b = escaped
			i += len(code{}) - 1
		}
		text = append(text, b)
	}
	return text, true
}

// Escape writes bytes as the text of a line.
func Escape(s string) string {
	return string(appendEscaped(nil, s))
}

// Unescape reads such a text.
func Unescape(s string) (string, api.Errno) {
	text, ok := appendPlain(nil, s)
	if !ok {
		return "", api.ErrEscape
	}
	return string(text), api.OK
}

// EscapeBody writes bytes as a line of an answer.
// A line of the wire that begins with % is a guard or a notification, which no answer may forge.
func EscapeBody(s string) string {
	if s == "" || s[0] != percent {
		return Escape(s)
	}
	return string(appendEscaped(appendCode(nil, percent), s[1:]))
}

// UnescapeBody reads such a line.
func UnescapeBody(s string) (string, api.Errno) {
	if s != "" && s[0] == percent {
		return "", api.ErrEscape
	}
	c, ok := firstCode(s)
	if !ok || c != codeOf(percent) {
		return Unescape(s)
	}
	text, ok := appendPlain([]byte{percent}, s[len(c):])
	if !ok {
		return "", api.ErrEscape
	}
	return string(text), api.OK
}

// PutNumber writes a number.
func PutNumber(n int) string {
	if n < 0 || n > api.MaxNumber {
		return ""
	}
	return strconv.Itoa(n)
}

// Number reads one; false: it is none.
func Number(s string) (int, bool) {
	n, err := strconv.Atoi(s)
	// Atoi takes signs and needless zeros too: what is read must be what would be written.
	if err != nil || PutNumber(n) != s {
		return 0, false
	}
	return n, true
}

// PutId writes an id.
func PutId(mark byte, n int) string {
	number := PutNumber(n)
	if n == 0 || number == "" {
		return ""
	}
	return string(append([]byte{mark}, number...))
}

// Id reads one; false: it is none.
func Id(mark byte, s string) (int, bool) {
	if s == "" || s[0] != mark {
		return 0, false
	}
	n, ok := Number(s[1:])
	if !ok || n == 0 {
		return 0, false
	}
	return n, true
}

func inName(b byte) bool {
	return b >= blank && b <= tilde && b != '.' && b != ':'
}

// IsName tells whether a text is a name.
func IsName(s string) bool {
	if s == "" || len(s) > api.MaxName {
		return false
	}
	for i := 0; i < len(s); i++ {
		if !inName(s[i]) {
			return false
		}
	}
	return strings.IndexByte(headBars, s[0]) < 0 && s[len(s)-1] != blank
}

// IsWord tells whether a text is a name without blanks.
func IsWord(s string) bool {
	return IsName(s) && strings.IndexByte(s, blank) < 0
}
