package vt

import (
	"fmt"
	"strings"
	"testing"
)

// begunTexts lead to each state, with something begun in each way.
var begunTexts = []string{
	"", "\xc2", "\xdf", "\xe0", "\xe0\xa0", "\xe4", "\xe4\xb8", "\xed", "\xed\x9f", "\xef\xbb", "\xf0", "\xf0\x90", "\xf0\x9f\x98", "\xf1", "\xf4", "\xf4\x8f", "\xf4\x8f\xbf",
	"\x1b", "\x1b(", "\x1b)", "\x1b#", "\x1b%", "\x1b((", "\x1b[", "\x1b[2", "\x1b[2;", "\x1b[2;3", "\x1b[:", "\x1b[?", "\x1b[?7", "\x1b[>", "\x1b[!", "\x1b[ ", "\x1b[1!",
	"\x1b]", "\x1b]2", "\x1b]2;", "\x1b]2;t", "\x1b]0;t", "\x1b]1;t", "\x1b];", "\x1bP", "\x1bX", "\x1b^", "\x1b_", "\x1bPab",
}

// turns are the bytes at which the section A turns, and those that mean something there.
const turns = "\x00\x07\x08\x0a\x17\x18\x19\x1a\x1b\x1c\x1f /0789:;<?@ADHJPX[\\]^_`chmnp~\x7f\x80\x8f\x90\x9f\xa0\xbf\xc1\xc2\xdf\xe0\xed\xf0\xf4\xf5\xff"

// Each byte in each state, and those at which it turns behind that.
func TestV2EachByteInEachState(t *testing.T) {
	spread(len(begunTexts)*256, func(i int) {
		text, b := begunTexts[i/256], string([]byte{byte(i)})
		for last := range len(turns) {
			if t.Failed() {
				return
			}
			begun(t, 4, 2, 1).feed("ab"+text+b, turns[last:last+1]+"c")
		}
		for _, setup := range []string{"abcd", "ab\r\ncd\x1b[41m", "\x1b(0ab"} {
			begun(t, 4, 2, 1).feed(setup + text).feed(b).probed()
		}
	})
}

// Bytes of 80 and above: each with each behind it, and four by four those at which a character turns.
func TestV2Characters(t *testing.T) {
	ends := []byte{'a', 0x7f, 0x80, 0x8f, 0x90, 0x9f, 0xa0, 0xbf, 0xc2, 0xe4, 0xff}
	spread(128, func(i int) {
		first := byte(0x80 + i)
		for second := 0x7e; second <= 0xff; second++ {
			begun(t, 6, 1, 0).feed(string([]byte{first, byte(second)}), "\x80", "\x80", "a")
		}
		for _, second := range ends {
			for _, third := range ends {
				for _, fourth := range ends {
					if t.Failed() {
						return
					}
					begun(t, 6, 1, 0).feed(string([]byte{first, second, third, fourth}), ".")
				}
			}
		}
	})
}

// Every code point, written as it is spelt.
func TestV2EveryLetter(t *testing.T) {
	for letter := rune(0x20); letter <= 0x10ffff; letter++ {
		if letter >= 0xd800 && letter <= 0xdfff || letter > 0x40000 && letter%251 != 0 {
			continue
		}
		s := made(t, 3, 1, 0)
		s.Feed(string(letter))
		want := map[int]string{-1: "   ", 0: "   ", 1: string(letter) + "  ", 2: string(letter) + " "}[widthByText(letter)]
		if p := s.Picture(); rowsOf(p) != want || p.X != max(0, widthByText(letter)) {
			t.Fatalf("%x shows %q, cursor (%d, %d)", letter, rowsOf(p), p.X, p.Y)
		}
	}
}

// What the section A says, a row each.
func TestV2Bytes(t *testing.T) {
	const bad = "\ufffd"
	wantSeen(t, 6, 2, 0,
		seen{" ~", " ~", 2, 0}, seen{"a\x7fb", "ab", 2, 0}, seen{"a\x00\x01\x02\x03\x04\x05\x06\x10\x11\x17\x19\x1c\x1fb", "ab", 2, 0},
		seen{"\xc3\xa9", "\u00e9", 1, 0}, seen{"\xe4\xb8\x80", "\u4e00", 2, 0}, seen{"\xf0\x9f\x98\x80", "\U0001f600", 2, 0},
		seen{"\xc2\x85a", "a", 1, 0}, seen{"\xc2\x80\xc2\x9fa", "a", 1, 0}, seen{"\xc2\xa0a", "\u00a0a", 2, 0},
		seen{"\x80\xbf\xc0\xc1", bad + bad + bad + bad, 4, 0}, seen{"\xf5\xff", bad + bad, 2, 0},
		seen{"\xe0\x9f", bad + bad, 2, 0}, seen{"\xe0\xa0\x80", "\u0800", 1, 0}, seen{"\xed\xa0", bad + bad, 2, 0}, seen{"\xed\x9f\xbf", "\ud7ff", 1, 0},
		seen{"\xf0\x8f", bad + bad, 2, 0}, seen{"\xf0\x90\x80\x80", "\U00010000", 1, 0}, seen{"\xf4\x90", bad + bad, 2, 0}, seen{"\xf4\x8f\xbf\xbf", "\U0010ffff", 1, 0},
		seen{"\xe4\xb8\xe4\xb8\x80", bad + "\u4e00", 3, 0}, seen{"\xf0\x9f\x98a", bad + "a", 2, 0}, seen{"\xc3\x7fa", bad + "a", 2, 0},
		seen{"\xc3\ra", "a", 1, 0}, seen{"\xc3\na", bad + "     / a", 2, 1}, seen{"\xe4\xb8\x18a", bad + "a", 2, 0}, seen{"\xe4\xb8\x1aa", bad + "a", 2, 0}, seen{"\xe4\xb8\x1b[3Ca", bad + "   a", 5, 0},
		seen{"\xe4", "", 0, 0}, seen{"\xe4\xb8", "", 0, 0}, seen{"\xc3\x00a", bad + "a", 2, 0},
	)
	wantSeen(t, 6, 2, 0,
		seen{"\x1b\x18[2Ca", "[2Ca", 4, 0}, seen{"\x1b[2\x18Ca", "Ca", 2, 0}, seen{"\x1b[2\x1aCa", "Ca", 2, 0}, seen{"\x1b[2\x1b[3Ca", "   a", 4, 0}, seen{"\x1b(\x1b[3Ca", "   a", 4, 0},
		seen{"\x1b\x7f[2Ca", "  a", 3, 0}, seen{"\x1b[\x7f2\x7fCa", "  a", 3, 0}, seen{"\x1b\xc3\xa9", "\u00e9", 1, 0}, seen{"\x1b[2\xc3\xa9Ca", "\u00e9Ca", 3, 0}, seen{"\x1b[2\xffCa", bad + "Ca", 3, 0},
		seen{"ab\x1b\r[2Cc", "abc", 3, 0}, seen{"ab\x1b[2\rCc", "abc", 3, 0}, seen{"\x1b\n[2Ca", "      /  a", 3, 1}, seen{"\x1b[2\nCa", "      /  a", 3, 1}, seen{"ab\x1b[\b2Xc", "ac", 2, 0},
		seen{"\x1b([a", "a", 1, 0}, seen{"\x1b#]2;a", "2;a", 3, 0}, seen{"\x1b Pab", "ab", 2, 0}, seen{"\x1b!Xab", "ab", 2, 0}, seen{"\x1b\"^ab", "ab", 2, 0}, seen{"\x1b$_ab", "ab", 2, 0},
		seen{"\x1bza", "a", 1, 0}, seen{"\x1b~a", "a", 1, 0}, seen{"\x1b0a", "a", 1, 0}, seen{"\x1b=\x1b>a", "a", 1, 0}, seen{"\x1b\\a", "a", 1, 0},
	)
}

// What is gathered: its form, how many numbers, how many bytes.
func TestV2Gathered(t *testing.T) {
	wantSeen(t, 6, 2, 0,
		seen{"\x1b[?2Ca", "a", 1, 0}, seen{"\x1b[<2Ca", "a", 1, 0}, seen{"\x1b[=2Ca", "a", 1, 0}, seen{"\x1b[>2Ca", "a", 1, 0}, seen{"\x1b[2?Ca", "a", 1, 0}, seen{"\x1b[??2Ca", "a", 1, 0}, seen{"\x1b[2;?2Ca", "a", 1, 0},
		seen{"\x1b[2 Ca", "a", 1, 0}, seen{"\x1b[ 2Ca", "a", 1, 0}, seen{"\x1b[2!Ca", "a", 1, 0}, seen{"\x1b[!2Ca", "a", 1, 0}, seen{"\x1b[!;Ca", "a", 1, 0}, seen{"\x1b[2/Ca", "a", 1, 0},
		seen{"\x1b[002Ca", "  a", 3, 0}, seen{"\x1b[;Ca", " a", 2, 0}, seen{"\x1b[:Ca", " a", 2, 0}, seen{"\x1b[2;Ca", "  a", 3, 0}, seen{"\x1b[2:9Ca", "  a", 3, 0}, seen{"\x1b[99999999999999999999Ca", "     a", 5, 0},
	)
	for n := range 40 {
		want := seen{"\x1b[2" + strings.Repeat([]string{";", ":"}[n%2], n) + "Ca", "  a", 3, 0}
		if n+1 > 16 {
			want.rows, want.x = "a", 1
		}
		wantSeen(t, 6, 2, 0, want)
	}
	for _, n := range []int{1, 2, 100, 254, 255, 256, 257, 258, 300, 600} {
		want := seen{"\x1b[" + strings.Repeat("0", n-1) + "2Ca", "  a", 3, 0}
		if n > 256 {
			want.rows, want.x = "a", 1
		}
		wantSeen(t, 6, 2, 0, want)
		want.data = "\x1b[" + strings.Repeat("0\a", n-1) + "\x7f2\x7fCa"
		wantSeen(t, 6, 2, 0, want)
		begun(t, 6, 2, 0).feed("\x1b["+strings.Repeat(" ", n), "C", "\x1b[!"+strings.Repeat("!", n), "p", "\x1b"+strings.Repeat("(", n), "0q", "\x1b[?"+strings.Repeat("0", n), "25l", "\x1b[2C").probed()
	}
	for _, n := range []int{9998, 9999, 10000, 10001, 65536, 1 << 31} {
		s := made(t, 6, 2, 0)
		s.Feed(fmt.Sprintf("\x1b[38;5;1;%d;1mx", n))
		if g := s.Picture().Places[0]; g.Attr.Fore != 2 || g.Attr.Marks != 1 {
			t.Errorf("%d: %v", n, g)
		}
	}
}

// How bytes are cut into Feeds makes no difference.
func TestV2Pieces(t *testing.T) {
	text := "\x1b[31mab\xe4\xb8\x80\xe4\xb8\x1b[2;3Hx\x1b]2;tit\xc3\xa9le\x07\x1b(0lqk\x1b(B\x1b[?1049h\x1bPdead\x1b\\\x1b[6n\tz\r\n\xf0\x9f\x98\x80\x1b[?1049l\x1b#8\x1b[1;2r\x1b[4h\x1b7\x1b[2bq\x1b8"
	whole := made(t, 7, 3, 2)
	whole.Feed(text)
	answer := whole.Answer()
	for from := range len(text) + 1 {
		for to := from; to <= len(text); to++ {
			s := made(t, 7, 3, 2)
			s.Feed(text[:from])
			s.Feed(text[from:to])
			s.Feed("")
			s.Feed(text[to:])
			if !samePicture(s.Picture(), whole.Picture()) || s.Answer() != answer {
				t.Fatalf("cut at %d and %d: %s", from, to, drawn(s.Picture()))
			}
		}
	}
	begun(t, 7, 3, 2).bytewise(text).probed()
}
