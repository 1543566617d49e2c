package vt

import (
	"fmt"
	"strings"
)

// What stands on a screen: nothing, letters, and letters of width 2 at even and
// at odd columns, so that each column is once a left one and once a right one.
const (
	letters  = "abcdefghijklmnopqrstuvwxyz\r\nABCDEFG\r\n1234567890"
	wideEven = "\u4e00\u4e01\u4e02\u4e03\u4e04\r\n\u4e05\u4e06\u4e07\r\n\u4e08\u4e09"
	wideOdd  = "a\x1b[41m\u4e00\x1b[42m\u4e01\x1b[43m\u4e02\x1b[m\r\nb\u4e05\u4e06\r\nc\u4e07"
)

// setups lead to all that may be there ahead of a byte.
func setups() []string {
	list := []string{"", letters, "\x1b#8", "\x1b#8\x1b[45;32;1;4m"}
	for _, text := range []string{letters, wideEven, wideOdd} {
		for _, at := range []string{"\x1b[H", "\x1b[2;2H", "\x1b[2;3H", "\x1b[1;999H", "\x1b[999;1H", "\x1b[999;999H"} {
			list = append(list, text+at, text+at+"\x1b[44;31;7m")
		}
	}
	for _, state := range []string{
		"\x1b[1;999Hz", "\x1b[2;999Hz\x1b7", "\x1b[2;999Hz\x1b7\x1b[H\x1b[?7l", "\x1b[2;999Hz\x1b7\x1b[?7l\x1b8", "\x1b[999;999H\x1b[46mz", "\x1b[1;999Hz\x1b[4h", "\x1b[1;999Hz\x1b[?7l",
		"\x1b[?7l\x1b[2;999H", "\x1b[4h\x1b[2;2H", "\x1b[4h\x1b[1;999H", "\x1b[20h\x1b[2;2H", "\x1b(0", "\x1b)0\x0e", "\x1b(0\x1b)0\x0e", "\x1b(0\x1b7\x1b(B",
		"\x1b[2;3r", "\x1b[2;3r\x1b[1;2H", "\x1b[2;3r\x1b[2;2H", "\x1b[2;3r\x1b[3;2H", "\x1b[2;3r\x1b[4;2H", "\x1b[1;2r\x1b[2;1H", "\x1b[1;2r\x1b[999;2H", "\x1b[1;2r\x1b[1;999Hz", "\x1b[2;3r\x1b[?6h", "\x1b[2;3r\x1b[?6h\x1b[2;2H\x1b7", "\x1b[2;3r\x1b[1;2H\x1b7\x1b[?6h\x1b8",
		"\x1b[2;2H\x1b[33m\x1b7\x1b[m\x1b[H", "\x1b[2;2H\x1b[s\x1b[H", "\x1b[?6h\x1b7\x1b[?6l", "\x1b)0\x0e\x1b7\x0f",
		"\x1b[?47h", "\x1b[?1049h", "\x1b[42m\x1b[?1049hyz", "\x1b[2;2H\x1b7\x1b[?47h\x1b[1;2Hy\x1b7", "\x1b[?1049h\x1b[2;3r\x1b[3;1H", "\x1b[2;2H\x1b[?1049h" + letters + "\x1b[1;999Hz",
		"\x1b[?25l\x1b[?1h\x1b[?2004h", "\x1b]2;name\x07", "\x1b[3g", "\x1b[1;3H\x1bH\x1b[1;5H\x1bH\x1b[H", "\x1b[1;3H\x1bH\x1b[1;2H", "\x1b[5n\x07\x07", "\r\n\n\n\nlow",
	} {
		list = append(list, letters+state, wideOdd+state)
	}
	return list
}

// shortSetups are some of them, for where there are many steps.
func shortSetups() []string {
	all := setups()
	var some []string
	for i := 0; i < len(all); i += 3 {
		some = append(some, all[i])
	}
	return some
}

// counts are what a sequence may say of how often, how far or which.
var counts = []string{"", "0", "1", "2", "3", "4", "5", "9", "9999", "10000", "99999999999999999999999", "00002", "2;2", ";2", ":3", "3;1", "2;9999", "1;2;3"}

// The last bytes of control sequences that mean something, and the others.
const (
	lasts   = "@ABCDEFGHIJKLMPSTXZ`abcdefghlmnrsu"
	noLasts = "NOQRUVWY[\\]^_ijkopqtvwxyz{|}~"
)

// orders are control sequences with each of some last bytes and counts, without a mark.
func orders(lasts string, counts ...string) []string {
	var list []string
	for _, last := range []byte(lasts) {
		for _, count := range counts {
			if last == 'b' && len(count) > 3 {
				count = "30" // a paper takes long to write that much
			}
			list = append(list, fmt.Sprintf("\x1b[%s%c", count, last))
		}
	}
	return list
}

// markedOrders are those that set a mode by a number.
func markedOrders() []string {
	var list []string
	for _, last := range []string{"h", "l"} {
		for _, mode := range []string{"4", "20", "4;20", "20;;4", "7", "6"} {
			list = append(list, "\x1b["+mode+last)
		}
		for _, mode := range []string{"", "0", "1", "4", "6", "7", "20", "25", "47", "1047", "1048", "1049", "2004", "1;2004", "7;25", "6;47", "1048;47", "1049;1049", "47;1049", "25:1", "3", "12", "1000", "9999"} {
			list = append(list, "\x1b[?"+mode+last)
		}
	}
	return append(list, "\x1b[!p", "\x1b[1!p", "\x1b[1;2;3!p", "\x1b[?!p", "\x1b[!!p", "\x1b[! p", "\x1b[!q", "\x1b[p", "\x1b[\"p", "\x1b[>c", "\x1b[>h", "\x1b[=1h", "\x1b[<4h")
}

// escapes are all controls, escapes without and with one intermediate byte, and with two.
func escapes() []string {
	var list []string
	for b := byte(0); b < 0x20; b++ {
		list = append(list, string(b))
	}
	for b := byte('0'); b < 0x7f; b++ {
		list = append(list, "\x1b"+string(b), "\x1b("+string(b), "\x1b)"+string(b), "\x1b#"+string(b))
	}
	for b := byte(0x20); b < 0x30; b++ {
		list = append(list, "\x1b"+string(b)+"0", "\x1b"+string(b)+"8", "\x1b"+string(b)+"c", "\x1b"+string(b)+"[5n", "\x1b("+string(b)+"0", "\x1b"+string(b)+"#8")
	}
	return list
}

// written are letters of each width, whole and broken.
func written() []string {
	return []string{
		"a", "ab", "abcdefghijklm", "\u4e00", "\u4e00\u4e01", "a\u4e00b\u4e01", "e\u0301", "\u0301", "\u200b\u4e00", "\u00e9", "\U0001f600", "\U0010ffff", "\u0085", "\ufeff", "q~`jx", "\ufffd",
		"\xff", "\xc2a", "\xe4\xb8a", "\xe4\xb8\x1b[5n", "\xf0\x9f\x98\x07", "\xf0\x9f\x7fz", "\xe0\x80", "\xed\xa0\x80", "\xf4\x90\x80\x80", "\xc0\x80", "\xe4\xb8\xe4\xb8\x80", "\xe4\x18b", "\xe4\x1bD",
		"a\x1b[3b", "\u4e00\x1b[2b", "\u0301\x1b[2b", strings.Repeat("long ", 30),
	}
}

// sized are sizes to go to.
func sized() []string {
	var list []string
	for _, w := range []int{1, 2, 3, 4, 5, 7, 12, 25} {
		for _, h := range []int{1, 2, 3, 4, 6, 9} {
			list = append(list, fmt.Sprintf("=%dx%d", w, h))
		}
	}
	return list
}
