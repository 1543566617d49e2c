package vt

import (
	"fmt"
	"strings"
	"testing"

	"mullion/api"
)

// Letters of each width at every column, waiting and not, with the modes 4 and 7 on and off.
func TestV2LettersAtEveryColumn(t *testing.T) {
	var setups []string
	for _, modes := range []string{"", "\x1b[4h", "\x1b[?7l", "\x1b[4h\x1b[?7l"} {
		for _, pen := range []string{"", "\x1b[45;33;4m"} {
			for _, text := range []string{"", letters, wideEven, wideOdd} {
				for column := range 8 {
					at := fmt.Sprintf("\x1b[2;%dH", column+1)
					setups = append(setups, text+at+modes+pen, text+at+"i"+modes+pen, text+at+"i\x1b7"+modes+pen+"\x1b8"+pen, text+modes+pen+at+"\u4e7f")
				}
			}
		}
	}
	stories(t, [][3]int{{1, 2, 3}, {2, 2, 0}, {3, 2, 0}, {6, 3, 0}}, setups, []string{"", "n", "nm", "\u4e20", "\u4e20\u4e21", "n\u4e20", "\u0301", "\u4e20\u0301n"})
}

// What the section B says of letters, a row each.
func TestV2Letters(t *testing.T) {
	wantSeen(t, 5, 3, 0,
		seen{"abcd\u4e00", "abcd /\u4e00   ", 2, 1}, seen{"abc\u4e00", "abc\u4e00", 4, 0}, seen{"abc\u4e00d", "abc\u4e00/d", 1, 1}, seen{"abcde\u4e00", "abcde/\u4e00   ", 2, 1},
		seen{"abcde\u0301", "abcde", 4, 0}, seen{"abcde\u0301f", "abcde/f", 1, 1}, seen{"a\u0301b", "ab", 2, 0}, seen{"\u200b", "", 0, 0},
		seen{"\x1b[?7labcdef", "abcdf", 4, 0}, seen{"\x1b[?7labcd\u4e00", "abcd ", 4, 0}, seen{"\x1b[?7labc\u4e00d", "abc d", 4, 0}, seen{"\x1b[?7labcde\x1b[?7hf", "abcdf", 4, 0}, seen{"\x1b[?7labcde\x1b[?7hfg", "abcdf/g", 1, 1},
		seen{"abcde\x1b[?7l\x1b[?7hf", "abcdf", 4, 0}, seen{"abcde\x1b[?7hf", "abcde/f", 1, 1},
		seen{"abcde\x1b[4h\x1b[2GX", "aXbcd", 2, 0}, seen{"abcde\x1b[4h\x1b[2G\u4e00", "a\u4e00bc", 3, 0}, seen{"abc\u4e00\x1b[4h\x1b[2GX", "aXbc ", 2, 0}, seen{"\u4e00\u4e01\x1b[4h\x1b[2GX", " X \u4e01", 2, 0}, seen{"\u4e00\u4e01\x1b[4h\x1b[2GXY", " XY  ", 3, 0},
		seen{"abcde\x1b[4h\x1b[5GX", "abcdX", 4, 0}, seen{"abcde\x1b[4hX", "abcde/X", 1, 1}, seen{"abcde\x1b[4h\x1b[4l\x1b[2GX", "aXcde", 2, 0},
		seen{"\u4e00\u4e01\x1b[1GX", "X \u4e01 ", 1, 0}, seen{"\u4e00\u4e01\x1b[2G\u4e02", " \u4e02  ", 3, 0}, seen{"\u4e00\u4e01\x1b[3G\u4e02", "\u4e00\u4e02 ", 4, 0}, seen{"a\u4e00\x1b[1G\u4e02", "\u4e02   ", 2, 0},
		seen{"\x1b[3;5Hxy", "     /    x/y    ", 1, 2}, seen{"1\x1b[3;1Habcde\u4e00", "     /abcde/\u4e00   ", 2, 2},
	)
	wantSeen(t, 1, 2, 0, seen{"a", "a/ ", 0, 0}, seen{"ab", "a/b", 0, 1}, seen{"abc", "b/c", 0, 1}, seen{"\u4e00", " / ", 0, 0}, seen{"a\u4e00", "a/ ", 0, 1}, seen{"a\u4e00b", "a/b", 0, 1}, seen{"a\x1b[?7l\u4e00", "a/ ", 0, 0}, seen{"\x1b[4hab", "a/b", 0, 1})
	wantSeen(t, 2, 2, 0, seen{"\u4e00", "\u4e00/  ", 1, 0}, seen{"\u4e00\u4e01", "\u4e00/\u4e01", 1, 1}, seen{"a\u4e00", "a /\u4e00", 1, 1}, seen{"\u4e00\x1b[4h\x1b[1Ga", "a ", 1, 0})
}

// The set of lines: which letters are exchanged, in which of the sets.
func TestV2Sets(t *testing.T) {
	const ascii = " !\"#$%&'()*+,-./0123456789:;<=>?@ABCDEFGHIJKLMNOPQRSTUVWXYZ[\\]^_`abcdefghijklmnopqrstuvwxyz{|}~"
	const lines = " !\"#$%&'()*+,-./0123456789:;<=>?@ABCDEFGHIJKLMNOPQRSTUVWXYZ[\\]^_`\u2592bcde\u00b0\u00b1hi\u2518\u2510\u250c\u2514\u253cop\u2500rs\u251c\u2524\u2534\u252c\u2502yz{|}\u00b7"
	wantSeen(t, 95, 1, 0, seen{ascii, ascii, 94, 0}, seen{"\x1b(0" + ascii, lines, 94, 0}, seen{"\x1b)0\x0e" + ascii, lines, 94, 0}, seen{"\x1b)0" + ascii, ascii, 94, 0}, seen{"\x1b(0\x0e" + ascii, ascii, 94, 0})
	wantSeen(t, 9, 1, 0,
		seen{"\x1b(0q\x1b(Bq", "\u2500q", 2, 0}, seen{"\x1b(0q\x1b(0q\x1b(Aq", "\u2500\u2500q", 3, 0}, seen{"\x1b)0q\x0eq\x0fq", "q\u2500q", 3, 0}, seen{"\x1b)0\x0eq\x1b)1q", "\u2500q", 2, 0},
		seen{"\x1b(0\x1b)0q\x0eq\x1b(Bq\x0fq", "\u2500\u2500\u2500q", 4, 0}, seen{"\x1b(0\x1b*Bq\x1b+Bq\x1b((Bq\x1b(#Bq\x1b #Bq", "\u2500\u2500\u2500\u2500\u2500", 5, 0}, seen{"\x1b*0q\x1b+0q\x1b((0q\x1b((Bq", "qqqq", 4, 0},
		seen{"\x1b(0\u00e9\u4e00q", "\u00e9\u4e00\u2500", 4, 0}, seen{"\x1b(0\x1b(8q", "q", 1, 0}, seen{"\x1b(0\x1b(~q", "q", 1, 0}, seen{"\x1b(0\x1b(cq", "q", 1, 0},
	)
}

// The last letter, written again: as it was sent, in the set that is used now.
func TestV2Repeated(t *testing.T) {
	wantSeen(t, 9, 2, 0,
		seen{"a\x1b[3b", "aaaa", 4, 0}, seen{"a\x1b[b", "aa", 2, 0}, seen{"a\x1b[0b", "aa", 2, 0}, seen{"\x1b[3b", "", 0, 0}, seen{"\u0301\x1b[3b", "", 0, 0}, seen{"a\u0301\x1b[2b", "aaa", 3, 0}, seen{"\xff\x1b[2b", "\ufffd\ufffd\ufffd", 3, 0},
		seen{"a\xe4\x1b[2b", "a\ufffd\ufffd\ufffd", 4, 0}, seen{"\u4e00\x1b[2b", "\u4e00\u4e00\u4e00", 6, 0}, seen{"a\x1b[9b", "aaaaaaaaa/a", 1, 1}, seen{"a\x1b[2;2H\x1b[2b", "a        / aa", 3, 1}, seen{"a\x07\x1b[2b", "aaa", 3, 0},
		seen{"\x1b(0q\x1b[b\x1b(B\x1b[2b", "\u2500\u2500qq", 4, 0}, seen{"q\x1b(0\x1b[2b", "q\u2500\u2500", 3, 0}, seen{"a\x1bc\x1b[2b", "", 0, 0}, seen{"a\x1b[!p\x1b[2b", "aaa", 3, 0}, seen{"a\x1b#8\x1b[2b", "aaEEEEEEE/EEEEEEEEE", 2, 0},
		seen{"a\x1b[?47h\x1b[2b", " aa", 3, 0}, seen{"a\x1b[?7l\x1b[1;9H\u4e00\x1b[2b", "a       a", 8, 0}, seen{"abcdefghi\x1b[b", "abcdefghi/i", 1, 1}, seen{"ab\x1b[4h\x1b[1G\x1b[2b", "bbab", 2, 0},
	)
	s := made(t, 10, 4, 2000)
	s.Feed("x\x1b[99999b")
	if p := s.Picture(); rowsOf(p) != strings.Repeat("xxxxxxxxxx/", 3)+"xxxxxxxxxx" || s.History() != 996 || p.X != 9 {
		t.Errorf("9999 letters more: %s, History %d", drawn(p), s.History())
	}
	begun(t, 10, 4, 2000).feed("y\x1b[9998b", "z\x1b[9999b", "\u4e00\x1b[123456789b")
	begun(t, 3, 2, 0).feed("\u4e00", "\x1b[2b").resize(1, 1).feed("\x1b[2b", "a", "\x1b[b").resize(4, 2).feed("\x1b[b")
}

// Attr of letters, of torn halves and of erased places.
func TestV2AttrOfPlaces(t *testing.T) {
	s := made(t, 6, 1, 0)
	s.Feed("\x1b[31;42;1m\u4e00\u4e01\x1b[33;44;4m\x1b[2GX\x1b[4G\x1b[@")
	blank := func(attr api.Attr) api.Glyph { return api.Glyph{Text: " ", Width: 1, Attr: attr} }
	first := api.Attr{Fore: 2, Back: 3, Marks: api.MarkBold}
	second := api.Attr{Fore: 4, Back: 5, Marks: api.MarkBold | api.MarkUnder}
	for x, want := range []api.Glyph{blank(first), {Text: "X", Width: 1, Attr: second}, blank(first), blank(api.Attr{Back: 5}), blank(first), blank(api.Attr{})} {
		if got := s.Picture().Places[x]; got != want {
			t.Errorf("the place %d holds %v, not %v", x, got, want)
		}
	}
}
