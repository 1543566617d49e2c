package scene

import (
	"testing"

	"mullion/api"
)

// Pictures that are smaller than their cells leave blanks, greater ones are cut off at the right and below.
func TestP262OtherSizes(t *testing.T) {
	w := windowOf(t, "5x3,0,0{2x3,0,0,1,2x3,3,0,2}", 1)
	for _, c := range []struct {
		first, second api.Picture
		rows          []string
	}{
		{of("a"), of("x"), []string{"a │x ", "  │  ", "  │  "}},
		{of("ab"), of("x", "y", "z", "!"), []string{"ab│x ", "  │y ", "  │z "}},
		{of("abc", "def", "ghi", "jkl"), of("xyz"), []string{"ab│xy", "de│  ", "gh│  "}},
		{of("a", "b"), of("wxyz!", "12345"), []string{"a │wx", "b │12", "  │  "}},
	} {
		p := draws(t, w, []api.Picture{c.first, c.second}, 5, 4, append(c.rows, "ok   ")...)
		red := api.Attr{Back: 9}
		p = draws(t, w, []api.Picture{with(c.first, red), with(c.second, red)}, 5, 4, append(c.rows, "ok   ")...)
		for i, g := range p.Places[:15] {
			if inside := i%5 != 2 && g.Text != " "; inside != (g.Attr == red) {
				t.Errorf("place %d is %v", i, g)
			}
		}
	}
}

// A letter of width 2 that is cut is a blank of its Attr: at its cell's edge, and at the stage's.
func TestP262CutLetters(t *testing.T) {
	w := windowOf(t, "5x2,0,0{2x2,0,0,1,2x2,3,0,2}", 1)
	a := api.Attr{Fore: 5, Back: 7, Marks: 9}
	first := with(of("x一_", "一_y"), a)
	second := with(of("一_三_", "z二_z"), a)
	shown := []api.Picture{first, second}
	p := draws(t, w, shown, 5, 3, "x │一", "一│z ", "ok   ")
	wantMarked(t, p, a, "xx.xx", "xx.xx", ".....")
	if p.Places[1] != blank(a) || p.Places[9] != blank(a) {
		t.Errorf("cut: %v, %v", p.Places[1], p.Places[9])
	}
	p = draws(t, w, shown, 4, 3, "x │ ", "一│z", "ok  ")
	wantMarked(t, p, a, "xx.x", "xx.x", "....")
	p = draws(t, w, shown, 1, 3, "x", " ", "o")
	wantMarked(t, p, a, "x", "x", ".")
	draws(t, w, shown, 2, 3, "x ", "一", "ok")
	draws(t, w, shown, 3, 2, "x │", "ok ")

	p = draws(t, zoomed(w), shown, 3, 3, "x一", "一y", "ok ")
	p = draws(t, zoomed(w), shown, 2, 3, "x ", "一", "ok")
	wantMarked(t, p, a, "xx", "xx", "..")
	one := windowOf(t, "2x2,0,0,1", 1)
	p = draws(t, zoomed(one), shown[:1], 4, 3, "x ··", "一··", "ok  ")
	wantMarked(t, p, a, "xx..", "xx..", "....")
	draws(t, one, shown[:1], 4, 3, "x ··", "一··", "ok  ")
}

// Zoomed windows: the active pane's picture in all of the window, whatever its size; no borders.
func TestP262Zoomed(t *testing.T) {
	w := zoomed(windowOf(t, "5x3,0,0{2x3,0,0,1,2x3,3,0[2x1,3,0,2,2x1,3,2,3]}", 2))
	shown := filled(w)
	shown[1] = of("abcde", "fghij", "klmno")
	draws(t, w, shown, 6, 5, "abcde·", "fghij·", "klmno·", "······", "ok    ")
	draws(t, w, shown, 5, 4, "abcde", "fghij", "klmno", "ok   ")
	draws(t, w, shown, 3, 3, "abc", "fgh", "ok ")
	shown[1] = of("ab", "cd")
	p := draws(t, w, shown, 6, 5, "ab   ·", "cd   ·", "     ·", "······", "ok    ")
	wantMarked(t, p, api.Attr{}, "xxxxx.", "xxxxx.", "xxxxx.", "......", "......")
	shown[1] = of("abcdefg", "hijklmn", "opqrstu", "vwxyz!?")
	draws(t, w, shown, 6, 5, "abcde·", "hijkl·", "opqrs·", "······", "ok    ")
	w.Active = 1
	draws(t, w, shown, 6, 5, "11   ·", "11   ·", "11   ·", "······", "ok    ")
	w.Active = 3
	draws(t, w, shown, 6, 3, "33   ·", "     ·", "ok    ")
	one := windowOf(t, "5x2,0,0,9", 9)
	draws(t, one, filled(one), 5, 3, "99999", "99999", "ok   ")
	draws(t, zoomed(one), filled(one), 5, 3, "99999", "99999", "ok   ")
}

// wantCursor holds the cursor against a place; without one it is hidden at (0, 0).
func wantCursor(t testing.TB, p api.Picture, x, y int, hidden bool) {
	t.Helper()
	if p.X != x || p.Y != y || p.Hidden != hidden {
		t.Errorf("the cursor is at (%d, %d), hidden %v, and not at (%d, %d), %v", p.X, p.Y, p.Hidden, x, y, hidden)
	}
}

// The cursor is the active pane's, if it lies in the cell and in the window's part.
func TestP262Cursor(t *testing.T) {
	w := windowOf(t, "5x4,0,0[5x1,0,0,1,5x2,0,2{2x2,0,2,2,2x2,3,2,3}]", 3)
	big := of("aaaaaaa", "aaaaaaa", "aaaaaaa", "aaaaaaa", "aaaaaaa")
	for y := range 5 {
		for x := range 7 {
			for _, hidden := range []bool{false, true} {
				for width := 1; width < 8; width++ {
					for height := 1; height < 8; height++ {
						shown := []api.Picture{of("a"), cursor(of("bb", "bb"), 1, 1, !hidden), cursor(big, x, y, hidden)}
						p := shows(t, asked{w, shown, "ok", width, height})
						if x < 2 && y < 2 && 3+x < width && 2+y < height-1 {
							wantCursor(t, p, 3+x, 2+y, hidden)
						} else {
							wantCursor(t, p, 0, 0, true)
						}
						p = shows(t, asked{zoomed(w), shown, "ok", width, height})
						if x < 5 && y < 4 && x < width && y < height-1 {
							wantCursor(t, p, x, y, hidden)
						} else {
							wantCursor(t, p, 0, 0, true)
						}
					}
				}
			}
		}
	}
}

// The Title is the active pane's, seen or not.
func TestP262Title(t *testing.T) {
	w, shown := chapters(t)
	shown[0].Title, shown[1].Title = "one", "two \xff"
	for _, w.Zoom = range []bool{false, true} {
		for height := 1; height < 6; height++ {
			for width := 1; width < 8; width++ {
				w.Active = 1
				if p := shows(t, asked{w, shown, "ok", width, height}); p.Title != "one" {
					t.Errorf("the title is %q", p.Title)
				}
				w.Active = 2
				if p := shows(t, asked{w, shown, "ok", width, height}); p.Title != "two \xff" {
					t.Errorf("the title is %q", p.Title)
				}
			}
		}
	}
}

// The status row is what Status says.
func TestP262StatusRow(t *testing.T) {
	w, shown := chapters(t)
	for _, text := range []string{"", "a", "abcdefgh", "\u4e00\u4e00\u4e00", "a\u4e00\u4e00\u4e00", "e\u0301\xff\x07"} {
		for width := 1; width < 9; width++ {
			for height := 1; height < 6; height++ {
				row, _ := Status(text, width)
				p := shows(t, asked{w, shown, text, width, height})
				for x, g := range p.Places[width*(height-1):] {
					if g != row[x] {
						t.Errorf("%q: place %d is %v, and not %v", text, x, g, row[x])
					}
				}
			}
		}
	}
}
