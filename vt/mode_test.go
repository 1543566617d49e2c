package vt

import (
	"strings"
	"testing"

	"mullion/api"
)

// App, Bracket, Alternate and Hidden behind each of what changes them.
func TestV3Modes(t *testing.T) {
	for _, c := range []struct {
		text                            string
		app, bracket, alternate, hidden bool
	}{
		{"", false, false, false, false}, {"\x1b[?1h", true, false, false, false}, {"\x1b[?1h\x1b[?1l", false, false, false, false}, {"\x1b[?2004h", false, true, false, false}, {"\x1b[?2004h\x1b[?2004l", false, false, false, false}, {"\x1b[?25l", false, false, false, true}, {"\x1b[?25l\x1b[?25h", false, false, false, false},
		{"\x1b[?1;2004;47h\x1b[?25l", true, true, true, true}, {"\x1b[?1:2004:1047h", true, true, true, false}, {"\x1b[?1;2004;47h\x1b[?25l\x1b[!p", false, true, true, false}, {"\x1b[?1;2004;47h\x1b[?25l\x1bc", false, false, false, false}, {"\x1b[?1;2004;47h\x1b[?1;2004;47l", false, false, false, false},
		{"\x1b[?47h", false, false, true, false}, {"\x1b[?1047h", false, false, true, false}, {"\x1b[?1049h", false, false, true, false}, {"\x1b[?47h\x1b[?1047l", false, false, false, false}, {"\x1b[?1047h\x1b[?1049l", false, false, false, false}, {"\x1b[?1049h\x1b[?47l", false, false, false, false}, {"\x1b[?1049h\x1b[?1048l", false, false, true, false}, {"\x1b[?47;47h\x1b[?47l", false, false, false, false},
		{"\x1b[1h\x1b[25l\x1b[47h\x1b[2004h\x1b[1049h", false, false, false, false}, {"\x1b[>1h\x1b[=1h\x1b[<1h\x1b[?1 h\x1b[? h", false, false, false, false}, {"\x1b[?1H\x1b[?1j", false, false, false, false}, {"\x1b[?1h\x1b[!q\x1b[p\x1b[?!p\x1b[!!p", true, false, false, false}, {"\x1b[?h\x1b[?;;h", false, false, false, false}, {"\x1b[?;1h", true, false, false, false},
	} {
		s := made(t, 4, 2, 0)
		s.Feed(c.text)
		if s.App() != c.app || s.Bracket() != c.bracket || s.Alternate() != c.alternate || s.Picture().Hidden != c.hidden {
			t.Errorf("%q: App %v, Bracket %v, Alternate %v, hidden %v", c.text, s.App(), s.Bracket(), s.Alternate(), s.Picture().Hidden)
		}
	}
}

// The soft reset, a row each, and what it leaves.
func TestV2SoftReset(t *testing.T) {
	wantSeen(t, 5, 3, 0,
		seen{"abcde\x1b[2G\x1b[4h\x1b[!pX", "aXcde", 2, 0}, seen{"ab\x1b[20h\x1b[!p\nX", "ab   /  X", 3, 1}, seen{"\x1b[?7l\x1b[!pabcdef", "abcde/f", 1, 1}, seen{"\x1b[2;3r\x1b[?6h\x1b[!p\x1b[HX", "X", 1, 0}, seen{"1\r\n2\r\n3\x1b[1;2r\x1b[2;2H\x1b[!p\nX", "1    /2    /3X", 2, 2},
		seen{"\x1b(0\x1b)0\x0e\x1b[!pq\x0eq", "qq", 2, 0}, seen{"\x1b)0\x0e\x1b[!p\x1b)0q", "q", 1, 0}, seen{"ab\x1b7\x1b[!p\x1b8X", "Xb", 1, 0}, seen{"abcde\x1b[!pX", "abcdX", 4, 0}, seen{"ab\x1b[?47h\x1b[!pX", "  X", 3, 0}, seen{"ab\x1b7\x1b[?47h\x1b[!p\x1b[?47l\x1b[3;3H\x1b8X", "abX", 3, 0},
	)
	s := made(t, 20, 3, 5)
	s.Feed("\x1b]2;name\a\x1b[31;42;1m\x1b[3g\x1b[?2004h\a\x1b[5n\r\n\n\n\x1b[!px\ty")
	if p := s.Picture(); p.Title != "name" || !s.Bracket() || s.Bells() != 1 || s.Answer() != "\x1b[0n" || s.History() != 1 || p.Places[40] != (api.Glyph{Text: "x", Width: 1}) || p.Places[59].Text != "y" {
		t.Errorf("behind a soft reset: %s", drawn(p))
	}
}

// The other screen, with the cursors that are kept.
func TestV2OtherScreen(t *testing.T) {
	wantSeen(t, 5, 3, 0,
		seen{"ab\x1b[?47h", "", 2, 0}, seen{"ab\x1b[?47hc", "  c", 3, 0}, seen{"ab\x1b[?47hc\x1b[?47l", "ab", 3, 0}, seen{"ab\x1b[?47hc\x1b[?47ld", "ab d", 4, 0}, seen{"ab\x1b[?47hc\x1b[?47h", "  c", 3, 0}, seen{"ab\x1b[?47hc\x1b[?47l\x1b[?47h", "", 3, 0}, seen{"ab\x1b[?47l", "ab", 2, 0}, seen{"abcde\x1b[?47lf", "abcde/f", 1, 1}, seen{"abcde\x1b[?47h\x1b[?47lf", "abcdf", 4, 0}, seen{"\x1b[?47habcde\x1b[?47hf", "abcde/f", 1, 1}, seen{"\x1b[?47habcde\x1b[?47lf", "    f", 4, 0},
		seen{"ab\x1b[?1049hc", "  c", 3, 0}, seen{"ab\x1b[?1049hc\x1b[?1049l", "ab", 2, 0}, seen{"ab\x1b[?1049h\x1b[3;3H\x1b[?1049h\x1b[?1049lX", "abX", 3, 0}, seen{"ab\x1b[3;3H\x1b[?1049lX", "ab   /     /  X", 3, 2}, seen{"ab\x1b7\x1b[3;3H\x1b[?1049lX", "ab   /     /  X", 3, 2}, seen{"ab\x1b[?1049h\x1b[3;3H\x1b[?47lX", "ab   /     /  X", 3, 2}, seen{"ab\x1b[?1049h\x1b[3;3H\x1b[?47l\x1b8X", "abX", 3, 0}, seen{"ab\x1b7\x1b[?47h\x1b[3;3H\x1b[?1049lX", "abX", 3, 0}, seen{"abcde\x1b[?1049h\x1b[?1049lf", "abcde/f", 1, 1},
		seen{"ab\x1b7\x1b[?47h\x1b[3;3H\x1b8X", "X", 1, 0}, seen{"\x1b[?47h\x1b[2;2H\x1b7\x1b[?47l\x1b[3;3H\x1b8X", "X", 1, 0}, seen{"\x1b[?47h\x1b[2;2H\x1b7\x1b[?47l\x1b[?47h\x1b[3;3H\x1b8X", "X", 1, 0}, seen{"\x1b[?47h\x1b[2;2H\x1b7\x1b[H\x1b8X", "     / X", 2, 1}, seen{"\x1b[2;2H\x1b[?1048h\x1b[?47h\x1b[H\x1b[?1048lX", "X", 1, 0}, seen{"\x1b[?47h\x1b[2;2H\x1b7\x1b[?47h\x1b[H\x1b8X", "     / X", 2, 1},
		seen{"1\r\n2\r\n3\x1b[2;3r\x1b[?47h\x1b[3;1Ha\nb", "     /a    / b", 2, 2}, seen{"1\r\n2\r\n3\x1b[?47h\x1b[2;3r\x1b[?47l\x1b[3;1H\n4", "1    /3    /4", 1, 2}, seen{"\x1b[?47h\x1b[4h\x1b[?47lab\x1b[1GX", "Xab", 1, 0},
	)
	s := made(t, 5, 3, 9)
	s.Feed("1\r\n2\r\n3\r\n4\x1b[?1049h\x1b[Ha\r\nb\r\nc\r\nd")
	if got := strings.Join(s.Lines(), "/"); got != "b/c/d" || s.History() != 1 {
		t.Errorf("while the other screen is shown the lines are %q, History %d", got, s.History())
	}
	s.Feed("\x1b[?1049l")
	if got := strings.Join(s.Lines(), "/"); got != "1/2/3/4" || s.History() != 1 {
		t.Errorf("behind it the lines are %q, History %d", got, s.History())
	}
}
