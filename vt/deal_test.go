package vt

import (
	"fmt"
	"math/rand"
	"strings"
)

// dealer makes bytes by chance that mean something to a screen, or almost.
type dealer struct{ *rand.Rand }

func (d dealer) of(list ...string) string { return list[d.Intn(len(list))] }

// count is a number, or none.
func (d dealer) count() string {
	return d.of("", "", "0", "1", "2", "3", "4", "5", "7", "8", "9", "12", "40", "9999", fmt.Sprint(d.Intn(30)), fmt.Sprint(d.Intn(12000)))
}

func (d dealer) counts() string {
	text := d.count()
	for d.Intn(3) == 0 {
		text += d.of(";", ";", ":") + d.count()
	}
	return text
}

func (d dealer) pen() string {
	text := "\x1b["
	for range d.Intn(4) {
		text += d.of("", "0", "1", "4", "7", "22", "24", "31", "39", "42", "44", "49", "95", "103", "38;5;"+d.count(), "48;5;"+d.count(), "48;2;"+d.count()+";1;2", "38;2", "38") + ";"
	}
	return text + d.of("", "0", "1", "41", "3") + "m"
}

// order is a control sequence, mostly one that means something.
func (d dealer) order() string {
	switch d.Intn(12) {
	case 0:
		return d.pen()
	case 1:
		return "\x1b[?" + d.of("1", "6", "6", "7", "7", "25", "47", "1047", "1048", "1049", "1049", "2004", "7;6", "47;1048", "3", "") + d.of("h", "l")
	case 2:
		return "\x1b[" + d.of("4", "20", "4;20", "") + d.of("h", "l")
	case 3:
		return fmt.Sprintf("\x1b[%d;%dr", d.Intn(9), d.Intn(12))
	case 4:
		return fmt.Sprintf("\x1b[%d;%dH", d.Intn(14), d.Intn(30))
	case 5:
		return "\x1b[" + d.of("<", "=", ">", "?", "") + d.counts() + d.of("", " ", "!", "$", "!!") + string(rune(0x40+d.Intn(0x3f)))
	case 6:
		return "\x1b[!p"
	case 7:
		return "\x1b[" + fmt.Sprint(d.Intn(5)) + d.of("J", "K", "K", "g", "c", "n")
	}
	last := lasts[d.Intn(len(lasts))]
	if last == 'b' {
		return fmt.Sprintf("\x1b[%db", d.Intn(40))
	}
	return "\x1b[" + d.counts() + string(last)
}

func (d dealer) letters() string {
	var b strings.Builder
	for range 1 + d.Intn(12) {
		switch d.Intn(10) {
		case 0:
			b.WriteString(d.of("\u0301", "\u00e9", "\u2500", "\ufffd", "\U0010ffff", "\u0085", "\u200b"))
		case 1, 2, 3:
			b.WriteRune(0x4e00 + rune(d.Intn(400)))
		default:
			b.WriteByte(byte(0x20 + d.Intn(0x5f)))
		}
	}
	return b.String()
}

// wild is any bytes at all.
func (d dealer) wild() string {
	text := make([]byte, 1+d.Intn(6))
	for i := range text {
		text[i] = byte(d.Intn(256))
	}
	return string(text)
}

func (d dealer) token() string {
	switch d.Intn(20) {
	case 0, 1, 2, 3, 4:
		return d.letters()
	case 5, 6:
		return d.of("\r\n", "\r\n", "\n", "\r", "\b", "\t", "\v", "\f", "\a", "\x0e", "\x0f", "\x18", "\x1a", "\x7f")
	case 7:
		return d.of("\x1b7", "\x1b8", "\x1bD", "\x1bE", "\x1bM", "\x1bM", "\x1bH", "\x1b(0", "\x1b(B", "\x1b)0", "\x1b)B", "\x1b#8", "\x1b"+string(rune(0x30+d.Intn(0x4f))))
	case 8:
		return d.of("\x1b]2;", "\x1b]0;", "\x1b]1;", "\x1bP", "\x1b_") + d.letters() + d.of("\a", "\x1b\\", "\x18", "\x1a", "\x1b\\")
	case 9:
		if d.Intn(8) == 0 {
			return "\x1bc"
		}
		return d.wild()
	}
	return d.order()
}

// spoilt is a token of which a byte is changed, left out or put in.
func (d dealer) spoilt() string {
	text := []byte(d.token())
	i := d.Intn(len(text))
	switch d.Intn(3) {
	case 0:
		text[i] = byte(d.Intn(256))
	case 1:
		text = append(text[:i:i], text[i+1:]...)
	default:
		text = append(text[:i:i], append([]byte{byte(d.Intn(256))}, text[i:]...)...)
	}
	return string(text)
}

func (d dealer) text() string {
	if d.Intn(8) == 0 {
		return d.spoilt()
	}
	return d.token()
}

func (d dealer) size() (int, int) { return 1 + d.Intn(24), 1 + d.Intn(10) }
