package vt

import (
	"fmt"
	"strings"
	"testing"

	"mullion/api"
)

const grid = "abcde\r\nfghij\r\nklmno\x1b[2;3H" // 5x3, the cursor on h

// The control sequences that move the cursor, a row each.
func TestV2Moves(t *testing.T) {
	at := func(order string, x, y int) seen { return seen{grid + order, "abcde/fghij/klmno", x, y} }
	wantSeen(t, 5, 3, 0,
		at("\x1b[A", 2, 0), at("\x1b[0A", 2, 0), at("\x1b[1A", 2, 0), at("\x1b[2A", 2, 0), at("\x1b[9999A", 2, 0), at("\x1b[B", 2, 2), at("\x1b[9B", 2, 2), at("\x1b[e", 2, 2), at("\x1b[9e", 2, 2),
		at("\x1b[C", 3, 1), at("\x1b[0C", 3, 1), at("\x1b[2C", 4, 1), at("\x1b[3C", 4, 1), at("\x1b[a", 3, 1), at("\x1b[9a", 4, 1), at("\x1b[D", 1, 1), at("\x1b[2D", 0, 1), at("\x1b[3D", 0, 1),
		at("\x1b[E", 0, 2), at("\x1b[9E", 0, 2), at("\x1b[F", 0, 0), at("\x1b[9F", 0, 0), at("\x1b[G", 0, 1), at("\x1b[0G", 0, 1), at("\x1b[2G", 1, 1), at("\x1b[5G", 4, 1), at("\x1b[6G", 4, 1), at("\x1b[`", 0, 1), at("\x1b[4`", 3, 1),
		at("\x1b[H", 0, 0), at("\x1b[3H", 0, 2), at("\x1b[;3H", 2, 0), at("\x1b[3;2H", 1, 2), at("\x1b[0;0H", 0, 0), at("\x1b[3:2H", 1, 2), at("\x1b[9;9H", 4, 2), at("\x1b[3;2f", 1, 2), at("\x1b[f", 0, 0), at("\x1b[4;6f", 4, 2),
		at("\x1b[d", 2, 0), at("\x1b[3d", 2, 2), at("\x1b[4d", 2, 2), at("\x1b[I", 4, 1), at("\x1b[Z", 0, 1), at("\x1b[s\x1b[H\x1b[u", 2, 1), at("\x1b[u", 0, 0),
	)
	wantSeen(t, 30, 1, 0,
		seen{"\x1b[I.", "        .", 9, 0}, seen{"\x1b[2I.", "                .", 17, 0}, seen{"\x1b[3I.", "                        .", 25, 0}, seen{"\x1b[4I.", "                             .", 29, 0}, seen{"\x1b[30G\x1b[Z.", "                        .", 25, 0}, seen{"\x1b[30G\x1b[3Z.", "        .", 9, 0}, seen{"\x1b[30G\x1b[4Z.", ".", 1, 0}, seen{"\x1b[9G\x1b[Z.", ".", 1, 0}, seen{"\x1b[10G\x1b[Z.", "        .", 9, 0}, seen{"\x1b[30G\x1b[9999Z.", ".", 1, 0},
	)
}

// Moves with a region: inside it, above it and below it, with the mode 6 and without.
func TestV2MovesAndRegion(t *testing.T) {
	s := made(t, 4, 8, 0)
	for _, c := range []struct {
		data string
		y    int
	}{
		{"\x1b[3;6r", 0}, {"\x1b[4;1H\x1b[9A", 2}, {"\x1b[4;1H\x1b[9B", 5}, {"\x1b[3;1H\x1b[A", 2}, {"\x1b[6;1H\x1b[B", 5}, {"\x1b[2;1H\x1b[9A", 0}, {"\x1b[2;1H\x1b[9B", 5}, {"\x1b[7;1H\x1b[9A", 2}, {"\x1b[7;1H\x1b[9B", 7}, {"\x1b[7;1H\x1b[9e", 7}, {"\x1b[2;1H\x1b[9E", 5}, {"\x1b[8;1H\x1b[9F", 2}, {"\x1b[1;1H\x1b[3F", 0},
		{"\x1b[?6h", 2}, {"\x1b[2H", 3}, {"\x1b[9H", 5}, {"\x1b[d", 2}, {"\x1b[3d", 4}, {"\x1b[9d", 5}, {"\x1b[H", 2}, {"\x1b[4;4f", 5}, {"\x1b[5;5f", 5}, {"\x1b[2;4r", 1}, {"\x1b[9d", 3}, {"\x1b[r", 0}, {"\x1b[9d", 7}, {"\x1b[?6l", 0}, {"\x1b[3;6r\x1b[9d", 7}, {"\x1b[?6h\x1b[?6l\x1b[8H", 7},
	} {
		s.Feed(c.data)
		if p := s.Picture(); p.Y != c.y {
			t.Errorf("behind %q the cursor is in row %d, not %d", c.data, p.Y, c.y)
		}
	}
}

// What they do to the places, a row each.
func TestV2Changes(t *testing.T) {
	of := func(order, rows string, x, y int) seen { return seen{grid + order, rows, x, y} }
	wantSeen(t, 5, 3, 0,
		of("\x1b[J", "abcde/fg   /     ", 2, 1), of("\x1b[0J", "abcde/fg   /     ", 2, 1), of("\x1b[1J", "     /   ij/klmno", 2, 1), of("\x1b[2J", "     /     /     ", 2, 1), of("\x1b[3J", "abcde/fghij/klmno", 2, 1), of("\x1b[4J", "abcde/fghij/klmno", 2, 1), of("\x1b[9999J", "abcde/fghij/klmno", 2, 1), of("\x1b[;2J", "abcde/fg   /     ", 2, 1),
		of("\x1b[K", "abcde/fg   /klmno", 2, 1), of("\x1b[0K", "abcde/fg   /klmno", 2, 1), of("\x1b[1K", "abcde/   ij/klmno", 2, 1), of("\x1b[2K", "abcde/     /klmno", 2, 1), of("\x1b[3K", "abcde/fghij/klmno", 2, 1),
		of("\x1b[L", "abcde/     /fghij", 0, 1), of("\x1b[2L", "abcde/     /     ", 0, 1), of("\x1b[9L", "abcde/     /     ", 0, 1), of("\x1b[M", "abcde/klmno/     ", 0, 1), of("\x1b[2M", "abcde/     /     ", 0, 1), of("\x1b[9999M", "abcde/     /     ", 0, 1),
		of("\x1b[@", "abcde/fg hi/klmno", 2, 1), of("\x1b[2@", "abcde/fg  h/klmno", 2, 1), of("\x1b[3@", "abcde/fg   /klmno", 2, 1), of("\x1b[9@", "abcde/fg   /klmno", 2, 1), of("\x1b[P", "abcde/fgij /klmno", 2, 1), of("\x1b[2P", "abcde/fgj  /klmno", 2, 1), of("\x1b[9P", "abcde/fg   /klmno", 2, 1),
		of("\x1b[X", "abcde/fg ij/klmno", 2, 1), of("\x1b[2X", "abcde/fg  j/klmno", 2, 1), of("\x1b[9X", "abcde/fg   /klmno", 2, 1), of("\x1b[0X", "abcde/fg ij/klmno", 2, 1),
		of("\x1b[S", "fghij/klmno/     ", 2, 1), of("\x1b[2S", "klmno/     /     ", 2, 1), of("\x1b[9S", "     /     /     ", 2, 1), of("\x1b[T", "     /abcde/fghij", 2, 1), of("\x1b[2T", "     /     /abcde", 2, 1), of("\x1b[9T", "     /     /     ", 2, 1),
		of("\x1b[2;3r\x1b[S", "abcde/klmno/     ", 0, 0), of("\x1b[2;3r\x1b[T", "abcde/     /fghij", 0, 0), of("\x1b[1;2r\x1b[S", "fghij/     /klmno", 0, 0), of("\x1b[1;2r\x1b[3;3H\x1b[L", "abcde/fghij/klmno", 2, 2), of("\x1b[2;3r\x1b[1;3H\x1b[M", "abcde/fghij/klmno", 2, 0), of("\x1b[1;2r\x1b[1;3H\x1b[L", "     /abcde/klmno", 0, 0), of("\x1b[1;2r\x1b[1;3H\x1b[9M", "     /     /klmno", 0, 0),
	)
}

// The region: what r takes, and what it does not.
func TestV2Region(t *testing.T) {
	for _, c := range []struct {
		order       string
		top, bottom int // from 1 on; 0: the region stays as it was, 3 to 5
	}{
		{"\x1b[r", 1, 6}, {"\x1b[2r", 2, 6}, {"\x1b[2;4r", 2, 4}, {"\x1b[;4r", 1, 4}, {"\x1b[0;0r", 1, 6}, {"\x1b[2;6r", 2, 6}, {"\x1b[2;7r", 2, 6}, {"\x1b[2;9999r", 2, 6}, {"\x1b[5;6r", 5, 6}, {"\x1b[2;3;4r", 2, 3},
		{"\x1b[6;6r", 0, 0}, {"\x1b[6r", 0, 0}, {"\x1b[7r", 0, 0}, {"\x1b[4;4r", 0, 0}, {"\x1b[4;3r", 0, 0}, {"\x1b[9999;9999r", 0, 0}, {"\x1b[1;1r", 0, 0}, {"\x1b[?2;4r", 0, 0}, {"\x1b[2;4 r", 0, 0},
	} {
		a := begun(t, 3, 6, 0).feed("1\r\n2\r\n3\r\n4\r\n5\r\n6\x1b[3;5r\x1b[2;2H", c.order)
		top, bottom, at := c.top, c.bottom, seen{c.order, "1  /2  /3  /4  /5  /6", 0, 0}
		if top == 0 {
			top, bottom, at.x, at.y = 3, 5, 1, 1
		}
		wantNow(t, a.s, at)
		rows := []string{"1  ", "2  ", "3  ", "4  ", "5  ", "6  "}
		moved := append(append(append(append([]string{}, rows[:top-1]...), rows[top:bottom]...), "   "), rows[bottom:]...)
		a.feed("\x1b[S")
		wantNow(t, a.s, seen{c.order + " and scrolled", strings.Join(moved, "/"), at.x, at.y})
		a.probed()
	}
	wantSeen(t, 3, 1, 0, seen{"ab\x1b[1;1r", "ab", 2, 0}, seen{"ab\x1b[r", "ab", 2, 0})
	begun(t, 5, 3, 0).feed("abcde\x1b[3;2r", "f", "\x1b[1;5Hx\x1b[1;2r", "y", "\x1b[?6h", "\x1b[2;3r", "z")
}

// Which orders end the waiting, and which do not: the next letter tells.
func TestV2WhatEndsTheWaiting(t *testing.T) {
	for _, order := range []string{
		"[A", "[B", "[e", "[C", "[a", "[9C", "[D", "[E", "[F", "[5G", "[5`", "[1;5H", "[1;5f", "[d", "[1d", "[I", "[Z", "[J", "[1J", "[2J", "[3J", "[K", "[1K", "[2K", "[L", "[M", "[@", "[P", "[X", "[S", "[T", "[r", "[1;2r", "[s", "[u", "M", "D", "E", "8", "#8", "c", "[!p", "[?6h", "[?6l", "[?7l\x1b[?7h", "[?47h", "[?1047h", "[?1049h",
	} {
		s := made(t, 5, 3, 0)
		s.Feed("abcde\x1b" + order)
		was := s.Picture()
		s.Feed("f")
		if p := s.Picture(); p.Places[p.W*was.Y+was.X].Text != "f" {
			t.Errorf("behind ESC %s it waits: %s", order, drawn(p))
		}
	}
	for _, order := range []string{
		"[g", "[3g", "[4h", "[4l", "[20h", "[20l", "[m", "[1m", "[5n", "[6n", "[c", "[4J", "[9J", "[3K", "[2;3r\x1b[1;5Hz\x1b[L", "[2;3r\x1b[1;5Hz\x1b[M", "[3;2r", "[2;2r", "[i", "[j", "[q", "[?J", "[?1h", "[?25l", "[?2004h", "[?7h", "[?1048h", "[?47l", "[?1047l", "[?1049l", "[?99h", "[ A", "[!A", "7", "H", "(0", ")0", "(B", "=", "Z", "]2;t\a", "Pa\x1b\\", "\\\a", "\\\x0e", "\\\x00", "\\\x7f",
	} {
		s := made(t, 5, 3, 0)
		s.Feed("abcde\x1b" + order)
		row := s.Picture().Y
		s.Feed("f")
		if p := s.Picture(); p.X != 1 || p.Y != row+1 {
			t.Errorf("behind ESC %s it does not wait: %s", order, drawn(p))
		}
	}
	for _, control := range []string{"\b", "\t", "\n", "\v", "\f", "\r"} {
		begun(t, 5, 3, 0).feed("abcde", control, "f", "g").probed()
	}
	a := begun(t, 5, 3, 0).feed("abcde").resize(5, 3).feed("f")
	wantNow(t, a.s, seen{"a Resize ends it", "abcdf", 4, 0})
}

// Rows that scroll, and what joins the history.
func TestV2ScrollAndHistory(t *testing.T) {
	for _, c := range []struct{ data, lines string }{
		{"1\r\n2\r\n3\r\n4", "1/2/3/4"}, {"1\r\n2\r\n3\x1b[S", "1/2/3/"}, {"1\r\n2\r\n3\x1b[2S", "1/2/3//"}, {"1\r\n2\r\n3\x1b[9S", "1/2/3///"}, {"1\r\n2\r\n3\x1b[T", "/1/2"}, {"1\r\n2\r\n3\x1b[H\x1b[M", "2/3/"}, {"1\r\n2\r\n3\x1b[H\x1b[9M", "//"}, {"1\r\n2\r\n3\x1b[H\x1bM", "/1/2"},
		{"1\r\n2\r\n3\x1b[1;2r\x1b[2;1H\n", "1/2//3"}, {"1\r\n2\r\n3\x1b[1;2r\x1b[9S", "1/2///3"}, {"1\r\n2\r\n3\x1b[2;3r\x1b[3;1H\n", "1/3/"}, {"1\r\n2\r\n3\x1b[2;3r\x1b[2S", "1//"}, {"1\r\n2\r\n3\x1b[?47h\n\n\n\n\x1b[9S\x1b[?47l", "1/2/3"}, {"1\r\n2\r\n3\r\n4\r\n5\r\n6\r\n7\r\n8\r\n9\r\n10\r\n11", "4/5/6/7/8/9/10/11"},
		{"1\r\n2\r\n3\r\n4\x1b[3J", "2/3/4"}, {"1\r\n2\r\n3\r\n4\x1b[2J", "1///"}, {"1\r\n2\r\n3\r\n4\x1b[?47h\x1b[3J\x1b[?47l", "2/3/4"}, {"1\r\n2\r\n3\r\n4\x1b[3J\r\n5", "2/3/4/5"}, {"12345671", "12345/671/"}, {"1\r\n2\r\n123456", "1/2/12345/6"},
	} {
		s := made(t, 5, 3, 5)
		s.Feed(c.data)
		if got := strings.Join(s.Lines(), "/"); got != c.lines || s.History() != strings.Count(c.lines, "/")-2 {
			t.Errorf("%q: the lines are %q, History %d, not %q", c.data, got, s.History(), c.lines)
		}
	}
	for _, history := range []int{0, 1, 2, 1999, 2000} {
		s := made(t, 5, 3, history)
		for i := range history + 50 {
			s.Feed(fmt.Sprintf("\r\n%d", i))
			if want := min(max(0, i-1), history); s.History() != want {
				t.Fatalf("History is %d, not %d", s.History(), want)
			}
		}
		for i, line := range s.Lines() {
			if line != fmt.Sprint(i+47) {
				t.Fatalf("history %d: the line %d is %q", history, i, line)
			}
		}
	}
}

// An erased place has the pen's Back, and nothing else of it.
func TestV2Erased(t *testing.T) {
	want := api.Glyph{Text: " ", Width: 1, Attr: api.Attr{Back: 66308}}
	for order, places := range map[string][]int{
		"\x1b[2J": {0, 8, 17}, "\x1b[J": {8, 17}, "\x1b[1J": {0, 8}, "\x1b[K": {8, 11}, "\x1b[1K": {6, 8}, "\x1b[2K": {6, 11}, "\x1b[X": {8}, "\x1b[@": {8}, "\x1b[P": {11}, "\x1b[L": {6, 11}, "\x1b[M": {12, 17}, "\x1b[S": {12, 17}, "\x1b[T": {0, 5},
		"\x1b[3;1H\n": {12, 17}, "\x1b[H\x1bM": {0, 5}, "\x1b[?47h": {0, 8, 17}, "\x1b[?1049h": {0, 17}, "\x1b[3;6Hzy": {13, 17},
	} {
		s := made(t, 6, 3, 0)
		s.Feed("\x1b#8\x1b[31;48;2;1;2;3;4;7m\x1b[2;3H" + order)
		for _, i := range places {
			if got := s.Picture().Places[i]; got != want {
				t.Errorf("%q: the place %d holds %v", order, i, got)
			}
		}
	}
}

// Letters of width 2 are cut by each order that takes places, at each place.
func TestV2Cuts(t *testing.T) {
	var setups, steps []string
	for _, text := range []string{wideEven, wideOdd} {
		for x := range 9 {
			setups = append(setups, fmt.Sprintf("%s\x1b[44;36;3m\x1b[1;%dH", text, x+1))
		}
	}
	for _, last := range "@PXKJ" {
		for n := range 10 {
			steps = append(steps, fmt.Sprintf("\x1b[%d%c", n, last))
		}
	}
	for w := range 11 {
		steps = append(steps, fmt.Sprintf("=%dx3", w+1))
	}
	stories(t, [][3]int{{3, 3, 0}, {8, 3, 0}, {9, 3, 0}}, setups, steps)
}
