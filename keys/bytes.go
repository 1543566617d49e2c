package keys

import (
	"strings"

	"mullion/api"
)

// What sequences begin with, and what some of them end with.
const (
	escapeText   = "\x1b"
	sequenceHead = "\x1b["
	shiftHead    = "\x1bO"
	backTabEnd   = "Z"
	tilde        = "~"
)

// What stands between a sequence's number and its modifiers; and the number of
// one that ends with a letter, which says nothing.
const (
	between   = ";"
	anyNumber = "1"
)

// special says how a special key is told: by its letter or, if it has none, by
// its number and a tilde. Of one with a letter the number is another form of it
// without modifiers, which some terminals send.
type special struct{ name, head, letter, number string }

// specials stand by rising code, from KeyUp on.
var specials = [...]special{
	{"Up", sequenceHead, "A", ""},
	{"Down", sequenceHead, "B", ""},
	{"Right", sequenceHead, "C", ""},
	{"Left", sequenceHead, "D", ""},
	{"Home", sequenceHead, "H", "1"},
	{"End", sequenceHead, "F", "4"},
	{"Insert", sequenceHead, "", "2"},
	{"Delete", sequenceHead, "", "3"},
	{"PageUp", sequenceHead, "", "5"},
	{"PageDown", sequenceHead, "", "6"},
	{"F1", shiftHead, "P", "11"},
	{"F2", shiftHead, "Q", "12"},
	{"F3", shiftHead, "R", "13"},
	{"F4", shiftHead, "S", "14"},
	{"F5", sequenceHead, "", "15"},
	{"F6", sequenceHead, "", "17"},
	{"F7", sequenceHead, "", "18"},
	{"F8", sequenceHead, "", "19"},
	{"F9", sequenceHead, "", "20"},
	{"F10", sequenceHead, "", "21"},
	{"F11", sequenceHead, "", "23"},
	{"F12", sequenceHead, "", "24"},
}

// Bytes are a key's bytes; empty, if it is none.
func Bytes(k api.Key, app bool) string {
	switch {
	case !Valid(k):
		return ""
	case k.Code == api.KeyBackTab:
		return sequenceHead + backTabEnd
	case isSpecial(k.Code):
		return specials[k.Code-api.KeyUp].bytes(k.Mods, app)
	}
	code := k.Code
	if k.Mods&api.ModCtrl != 0 {
		code = controlByte(code)
	}
	text := string(rune(code))
	if k.Mods&api.ModMeta != 0 {
		return escapeText + text
	}
	return text
}

// controlByte is what ModCtrl makes of the blank or of a control character:
// the low five bits.
func controlByte(code int) int { return code & 31 }

func (s special) bytes(mods int, app bool) string {
	held := ""
	if mods > 0 {
		held = between + string(rune('1'+mods))
	}
	switch {
	case s.letter == "":
		return s.head + s.number + held + tilde
	case mods > 0:
		return sequenceHead + anyNumber + held + s.letter
	case app:
		return shiftHead + s.letter
	}
	return s.head + s.letter
}

// inSequence is the key of a control sequence: what stands between its head and
// its last byte, and that byte; KeyNone: there is none.
func inSequence(numbers, last string) api.Key {
	if numbers == "" && last == backTabEnd {
		return api.Key{Code: api.KeyBackTab}
	}
	number, held, modified := strings.Cut(numbers, between)
	mods := 0
	if modified {
		mods = modsOf(held)
		if mods == 0 {
			return api.Key{}
		}
	}
	for i, s := range specials {
		if s.isTold(number, last, modified) {
			return api.Key{Code: api.KeyUp + i, Mods: mods}
		}
	}
	return api.Key{}
}

// modsOf are the modifiers that a sequence tells; 0: it tells none.
func modsOf(held string) int {
	if len(held) != 1 || held[0] <= '1' || held[0] > '1'+allMods {
		return 0
	}
	return int(held[0] - '1')
}

// isTold tells whether a control sequence with this number and this last byte
// is that key.
func (s special) isTold(number, last string, modified bool) bool {
	switch {
	case last == tilde:
		return number == s.number && number != "" && (s.letter == "" || !modified)
	case last != s.letter:
		return false
	case modified:
		return number == anyNumber
	}
	return number == "" && s.head == sequenceHead
}

// inShift is the key that a letter behind ESC and O tells; KeyNone: there is none.
func inShift(letter string) api.Key {
	for i, s := range specials {
		if s.letter == letter {
			return api.Key{Code: api.KeyUp + i}
		}
	}
	return api.Key{}
}
