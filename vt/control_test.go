package vt

import (
	"strings"
	"testing"
)

// The controls of the section B, a row each.
func TestV2Controls(t *testing.T) {
	wantSeen(t, 5, 3, 0,
		seen{"abc\bX", "abX", 3, 0}, seen{"\b\bX", "X", 1, 0}, seen{"abcde\bX", "abcXe", 4, 0}, seen{"abcde\b\x1b[CX", "abcdX", 4, 0},
		seen{"ab\nX", "ab   /  X", 3, 1}, seen{"ab\vX", "ab   /  X", 3, 1}, seen{"ab\fX", "ab   /  X", 3, 1}, seen{"abcde\nX", "abcde/    X", 4, 1}, seen{"ab\x1b[20h\nX", "ab   /X", 1, 1}, seen{"ab\x1b[20h\vX\fY", "ab   /X    /Y", 1, 2}, seen{"ab\x1b[20h\x1b[20l\nX", "ab   /  X", 3, 1},
		seen{"ab\rX", "Xb", 1, 0}, seen{"abcde\rX", "Xbcde", 1, 0}, seen{"abcde\r\x1b[4CX", "abcdX", 4, 0},
		seen{"1\r\n2\r\n3\r\n4", "2    /3    /4", 1, 2}, seen{"1\r\n2\r\n3\x1b[1;2r\x1b[2;1H\n4", "2    /4    /3", 1, 1}, seen{"1\r\n2\r\n3\x1b[1;2r\x1b[3;1H\n4", "1    /2    /4", 1, 2}, seen{"1\r\n2\r\n3\x1b[2;3r\x1b[1;1H\n\n\n4", "1    /3    /4", 1, 2},
	)
	wantSeen(t, 20, 2, 0,
		seen{"\tX", "        X", 9, 0}, seen{"a\tX", "a       X", 9, 0}, seen{"12345678\tX", "12345678        X", 17, 0}, seen{"\t\t\tX", "                   X", 19, 0}, seen{"\t\t\tX\tY", "                   Y", 19, 0},
		seen{"\x1b[3G\x1bH\r\tX", "  X", 3, 0}, seen{"\x1b[9G\x1b[g\r\tX", "                X", 17, 0}, seen{"\x1b[9G\x1b[0g\r\tX", "                X", 17, 0}, seen{"\x1b[3g\tX", "                   X", 19, 0}, seen{"\x1b[9G\x1b[1g\x1b[2g\x1b[4g\r\tX", "        X", 9, 0}, seen{"\x1b[3g\x1b[5G\x1bH\r\tX", "    X", 5, 0},
	)
	begun(t, 20, 2, 0).feed("\x1b[1;20Hx\t", "y", "\x1b[1;20Hx\x1bH", "y", "\x1b[3;20r\tz")
}

// Bells: in ground, in an escape and in a sequence, and not in texts.
func TestV2Bells(t *testing.T) {
	for text, want := range map[string]int{
		"": 0, "\a": 1, "\a\a\a": 3, "\x1b\a\a[\a2\aC": 4, "\x1b(\a0": 1, "\x1b]2;a\a": 0, "\x1b]2;a\a\a": 1, "\x1bPa\a\a": 0, "\x1bXa\a\x1b\\\a": 1, "\x1b^\a\x18\a": 1, "\x1b_\a\x1a\a": 1, "\xe4\a": 1, "\x1b[\x18\a": 1, "\a\x1bc\a": 2, "\a\x1b[!p": 1,
	} {
		s := made(t, 5, 3, 0)
		s.Feed(text)
		if got := s.Bells(); got != want || s.Bells() != want {
			t.Errorf("%q rings %d times, not %d", text, got, want)
		}
	}
}

// The escapes of the section C, a row each.
func TestV2Escapes(t *testing.T) {
	wantSeen(t, 5, 3, 0,
		seen{"ab\x1b7\x1b[3;4H\x1b8X", "abX", 3, 0}, seen{"ab\x1b7\x1b[3;4H\x1b8\x1b[2;1H\x1b8X", "abX", 3, 0}, seen{"ab\x1b[3;4H\x1b8X", "Xb", 1, 0}, seen{"abcde\x1b7\x1b[H\x1b8X", "abcde/X", 1, 1}, seen{"abcde\x1b7X", "abcde/X", 1, 1}, seen{"abcde\x1b8X", "Xbcde", 1, 0},
		seen{"ab\x1bDX", "ab   /  X", 3, 1}, seen{"ab\x1b[20h\x1bDX", "ab   /  X", 3, 1}, seen{"abcde\x1bDX", "abcde/    X", 4, 1}, seen{"ab\x1bEX", "ab   /X", 1, 1}, seen{"1\r\n2\r\n3\x1bDX", "2    /3    / X", 2, 2}, seen{"1\r\n2\r\n3\x1bEX", "2    /3    /X", 1, 2},
		seen{"1\r\n2\r\n3\x1bMX", "1    /2X   /3", 2, 1}, seen{"1\r\n2\r\n3\x1b[H\x1bMX", "X    /1    /2", 1, 0}, seen{"1\r\n2\r\n3\x1b[2;3r\x1b[2;1H\x1bMX", "1    /X    /2", 1, 1}, seen{"1\r\n2\r\n3\x1b[2;3r\x1b[1;1H\x1bMX", "X    /2    /3", 1, 0}, seen{"1\r\n2\x1b[2;5HX\x1bMY", "1   Y/2   X", 4, 0},
		seen{"ab\x1b[2;3r\x1b#8", "EEEEE/EEEEE/EEEEE", 0, 0}, seen{"abcde\x1b#8X", "XEEEE/EEEEE/EEEEE", 1, 0}, seen{"\x1b[2;3r\x1b#8\x1b[3;1H\nX", "EEEEE/EEEEE/X", 1, 2}, seen{"\x1b#7\x1b#9\x1b##8\x1b#a", "", 0, 0}, seen{"abcde\x1bHX", "abcde/X", 1, 1},
		seen{"ab\x1bcX", "X", 1, 0}, seen{"ab\x1b(cX", "abX", 3, 0}, seen{"ab\x1b cX", "abX", 3, 0}, seen{"ab\x1b#cX", "abX", 3, 0}, seen{"ab\x1b 7\x1b[3;3H\x1b8X", "Xb", 1, 0}, seen{"ab\x1b7\x1b[3;3H\x1b!8X", "ab   /     /  X", 3, 2},
		seen{"ab\x1b1\x1b2\x1b9\x1bA\x1bB\x1bC\x1bF\x1bG\x1bN\x1bO\x1bZ\x1bd\x1bnX", "abX", 3, 0},
	)
}

// What is kept with a cursor, and comes back.
func TestV2KeptCursor(t *testing.T) {
	for _, text := range []string{
		"\x1b[31;42;5m\x1b7\x1b[mx\x1b8y", "\x1b[2;3r\x1b[?6h\x1b7\x1b[?6l\x1b[H\x1b8\x1b[Hx", "\x1b(0\x1b7\x1b(Bq\x1b8q", "\x1b)0\x1b7\x1b)Bq\x1b8\x0eq", "\x1b)0\x0e\x1b7\x0fq\x1b8q", "\x1b[1;5Hx\x1b7\x1b[H\x1b8y", "\x1b[1;5Hx\x1b7\x1b[H\x1b8\x1b7\x1b8y",
		"\x1b[31m\x1b(0\x1b[?6h\x1b[2;2H\x1b8x", "\x1b[2;2H\x1b[s\x1b[H\x1b[ux", "\x1b[2;2H\x1b[s\x1b[H\x1b8x", "\x1b[2;2H\x1b7\x1b[H\x1b[ux", "\x1b[1;5Hx\x1b[sy", "\x1b[1;5Hx\x1b[sy\x1b[uz", "\x1b[1;5Hx\x1b7y\x1b8z", "\x1b[uy", "\x1b[31m\x1b[uy",
		"\x1b[2;2H\x1b[?1048h\x1b[H\x1b[?1048lx", "\x1b[1;5Hx\x1b[?1048hy\x1b[?1048lz", "\x1b[?7l\x1b7\x1b[?7h\x1b8", "\x1b[4h\x1b7\x1b[4l\x1b8x", "\x1b[20h\x1b7\x1b[20l\x1b8\n",
		"\x1b[2;2H\x1b7\x1b[!p\x1b8x", "\x1b[2;2H\x1b7\x1b[?47h\x1b[!p\x1b8x\x1b[?47l\x1b8y", "\x1b[1;5Hx\x1b7\x1b[?7l\x1b8y", "\x1b[1;5Hx\x1b7\x1b[?7l\x1b8\x1b[?7hy", "\x1b[1;5Hx\x1b7\x1b[?7l\x1b8\u4e00\x1b[?7hy",
	} {
		for _, size := range sizes {
			begun(t, size[0], size[1], size[2]).feed(letters).bytewise(text).probed()
		}
	}
	a := begun(t, 5, 3, 0).feed("abcde\x1b7").resize(8, 3).feed("\x1b8", "f") // waiting, where it is not the last column any more
	wantNow(t, a.s, seen{"a kept cursor waits in the middle", "abcde   /f", 1, 1})
	a = begun(t, 5, 3, 0).feed("abcde\x1b7").resize(8, 3).feed("\x1b[?7l\x1b8", "fg")
	wantNow(t, a.s, seen{"without the mode 7 it writes on", "abcdfg", 6, 0})
	a = begun(t, 5, 3, 0).feed("abcde\x1b7").resize(8, 3).feed("\x1b8\b", "f")
	wantNow(t, a.s, seen{"a step back ends it", "abcfe", 4, 0})
}

// ESC c: as New made it, but that size, Bells, Answer and history stay.
func TestV8Reset(t *testing.T) {
	stories(t, sizes, setups(), []string{"\x1bc", "\x1bcx", "\x1bc\x1bc"})
	for _, setup := range setups() {
		for _, size := range sizes {
			s := made(t, size[0], size[1], size[2])
			s.Feed(setup + "\a\x1b[5n\x1b]0;title\a\r\n\n\n\n\n\n")
			bells, history := s.Bells(), s.History()
			s.Feed("\x1bc")
			wantBlank(t, s.Picture(), size[0], size[1])
			if s.Bells() != bells || s.History() != history || !strings.HasSuffix(s.Answer(), "\x1b[0n") || s.App() || s.Bracket() || s.Alternate() {
				t.Errorf("%q: behind ESC c %d bells, %d rows of history", setup, s.Bells(), s.History())
			}
		}
	}
	s := made(t, 4, 2, 9)
	s.Feed("1\r\n2\r\n3\r\n4\x1bc5")
	if got := strings.Join(s.Lines(), "/"); got != "1/2/5/" {
		t.Errorf("behind ESC c the lines are %q", got)
	}
	s.Resize(4, 4)
	wantNow(t, s, seen{"the rows come back", "1   /2   /5   ", 1, 2})
}
