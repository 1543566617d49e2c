package paint

import (
	"fmt"
	"strings"
	"testing"

	"mullion/api"
	"mullion/vt"
)

// wantRefused asks for ErrPicture, and nothing beside it.
func wantRefused(t *testing.T, from, to api.Picture) {
	t.Helper()
	if data, err := Bytes(from, to); data != "" || err != api.ErrPicture {
		t.Errorf("Bytes from %s to %s: %q, error %d", drawn(from), drawn(to), data, err)
	}
}

func TestP202Refusals(t *testing.T) {
	good, other := spoilable(4, 3), blank(t, 4, 3)
	for _, spoil := range spoils {
		bad := with(good, spoil)
		wantRefused(t, good, bad)
		wantRefused(t, bad, good)
		wantRefused(t, other, bad)
		wantRefused(t, bad, other)
		wantRefused(t, bad, bad)
		wantRefused(t, bad, copied(bad))
	}
	wantRefused(t, api.Picture{}, api.Picture{})
	sizes := [][2]int{{1, 1}, {1, 2}, {2, 1}, {3, 2}, {2, 3}, {6, 1}, {1, 6}, {5, 3}, {5, 4}, {6, 3}}
	for _, a := range sizes {
		for _, b := range sizes {
			if a != b {
				wantRefused(t, blank(t, a[0], a[1]), blank(t, b[0], b[1]))
			}
		}
	}
}

// allRows are all rows of w places that can be made of these letters.
func allRows(w int, letters [][]api.Glyph) [][]api.Glyph {
	if w == 0 {
		return [][]api.Glyph{nil}
	}
	var list [][]api.Glyph
	for _, letter := range letters {
		if len(letter) > w {
			continue
		}
		for _, rest := range allRows(w-len(letter), letters) {
			list = append(list, append(append([]api.Glyph(nil), letter...), rest...))
		}
	}
	return list
}

// eachToEach leads from each picture to each other one, there and back.
func eachToEach(t *testing.T, list []api.Picture) {
	t.Helper()
	spread(len(list), func(i int) {
		a := begun(t, list[i].W, list[i].H)
		good := a.show(list[i])
		for j := i + 1; good && j < len(list); j++ {
			good = a.show(list[j]) && a.show(list[i])
		}
	})
}

// someLetters are blanks, letters of width 1 and letters of width 2, plain and coloured.
func someLetters() [][]api.Glyph {
	red, green := api.Attr{Fore: 2, Marks: api.MarkBold}, api.Attr{Back: 3}
	return [][]api.Glyph{
		narrow(" ", api.Attr{}), narrow(" ", green), narrow("a", api.Attr{}), narrow("a", red),
		wide("\u4e00", api.Attr{}), wide("\u4e01", api.Attr{}), wide("\u4e00", red),
	}
}

// All rows of up to four places, from each to each: letters of width 2 over,
// beside and half over others, in the first and the last column.
func TestP202AllSmallRows(t *testing.T) {
	for w := 1; w <= 4; w++ {
		var list []api.Picture
		for i, row := range allRows(w, someLetters()) {
			list = append(list, api.Picture{W: w, H: 1, Places: row, X: i % w})
		}
		eachToEach(t, list)
	}
}

// The same with two rows: what is written at the end of the one, or the other,
// does not move on or scroll.
func TestP202AllSmallPages(t *testing.T) {
	for _, w := range []int{1, 2} {
		rows := allRows(w, someLetters())
		var list []api.Picture
		for i, first := range rows {
			for j, second := range rows {
				places := append(append([]api.Glyph(nil), first...), second...)
				list = append(list, api.Picture{W: w, H: 2, Places: places, X: (i + j) % w, Y: (i + 2*j) / 3 % 2})
			}
		}
		eachToEach(t, list)
	}
}

// The cursor from each place to each, hidden and shown, with a letter changed
// at each place ahead of it.
func TestP202Cursor(t *testing.T) {
	for _, size := range [][2]int{{1, 1}, {1, 3}, {3, 1}, {4, 3}} {
		w, h := size[0], size[1]
		var list []api.Picture
		for at := range w * h {
			for _, hidden := range []bool{false, true} {
				for place := range w*h + 1 {
					p := blank(t, w, h)
					p.X, p.Y, p.Hidden = at%w, at/w, hidden
					if place < w*h {
						p.Places[place].Text = string(rune('a' + at))
					}
					list = append(list, p)
				}
			}
		}
		eachToEach(t, list)
	}
}

// The cursor alone, over the whole of large screens.
func TestP202CursorAlone(t *testing.T) {
	for _, size := range [][2]int{{1000, 2}, {2, 1000}, {1000, 1}, {1, 1000}} {
		a := begun(t, size[0], size[1])
		d := dealt(size[0])
		for range 60 {
			a.show(with(a.at, func(p *api.Picture) { p.X, p.Y = d.Intn(p.W), d.Intn(p.H) }))
			a.show(with(a.at, func(p *api.Picture) { p.X, p.Y, p.Hidden = p.W-1, p.H-1, !p.Hidden }))
		}
	}
}

// attrChain shows each Attr behind each other one: within one picture, and from
// one picture to the next.
func attrChain(t *testing.T, attrs []api.Attr) {
	t.Helper()
	letters := []string{"x", " ", "\u4e00"}
	spread(len(attrs), func(i int) {
		a := begun(t, 5, 1)
		for j, other := range attrs {
			good := a.show(with(a.at, func(p *api.Picture) {
				put(p, j%2, 0, narrow(letters[j%2], attrs[i]))
				put(p, 1+j%2, 0, narrow(letters[i%2], other))
				put(p, 3, 0, wide(letters[2], attrs[i]))
				p.X = (i + j) % 5
			}))
			if !good || !a.show(with(a.at, func(p *api.Picture) { put(p, 3, 0, wide(letters[2], other)) })) {
				return
			}
		}
	})
}

func TestP202AllMarks(t *testing.T) {
	var attrs []api.Attr
	for marks := range 256 {
		attrs = append(attrs, api.Attr{Marks: marks})
	}
	attrChain(t, attrs)
}

// Colours of each kind, for letters, for what is behind them, and for both.
func TestP202AllColours(t *testing.T) {
	colours := []int{0, 1, 2, 7, 8, 9, 10, 15, 16, 17, 18, 255, 256, 257, 258, 257 + 254, 257 + 255, 257 + 256, 257 + 65535, 257 + 65536, 257 + 0x010203, 257 + 0xff0000, 257 + 0xffff00, 257 + 0xffffff}
	var attrs []api.Attr
	for i, c := range colours {
		attrs = append(attrs, api.Attr{Fore: c}, api.Attr{Back: c}, api.Attr{Fore: c, Back: c}, api.Attr{Fore: c, Back: colours[len(colours)-1-i], Marks: 255}, api.Attr{Fore: c, Marks: 1 << (i % 8)}, api.Attr{Back: c, Marks: 128})
	}
	attrChain(t, attrs)
	a := begun(t, 257, 2)
	for _, grow := range []int{1, 257, 65536, 256} { // all of the palette, and a walk through each light
		a.show(with(a.at, func(p *api.Picture) {
			for i := range 257 {
				c := i * grow
				if grow > 1 {
					c = 257 + i*grow%(1<<24)
				}
				put(p, i, 0, narrow("x", api.Attr{Fore: c}))
				put(p, i, 1, narrow("x", api.Attr{Back: c, Marks: i % 2}))
			}
		}))
	}
}

// Every letter that there is, of both widths.
func TestP202AllLetters(t *testing.T) {
	const w, h = 128, 32
	spread(0x110000/(w*h/2), func(i int) {
		a := begun(t, w, h)
		a.show(with(a.at, func(p *api.Picture) {
			for j := range w * h / 2 {
				letter, x, y := rune(i*(w*h/2)+j), 2*j%w, 2*j/w
				switch vt.Width(letter) {
				case 1:
					put(p, x, y, narrow(string(letter), api.Attr{}))
				case 2:
					put(p, x, y, wide(string(letter), api.Attr{}))
				}
			}
		}))
		a.show(blank(t, w, h))
	})
}

// Letters at every column: of width 1 and of width 2, over blanks, over letters
// of both widths, and back.
func TestP202EveryColumn(t *testing.T) {
	const w, h = 7, 3
	grounds := []string{"", strings.Repeat("abcdefg", h), strings.Repeat("\u4e00\u4e01\u4e02g", h), strings.Repeat("a\u4e00\u4e01\u4e02", h), "\x1b[44m\x1b[2J", "\x1b[41m" + strings.Repeat("\u4e00\u4e01\u4e02g", h)}
	for _, ground := range grounds {
		s, _ := vt.New(w, h, 0)
		s.Feed(ground)
		below := s.Picture()
		a := begun(t, w, h)
		for i := range w * h {
			for _, letter := range append(someLetters(), narrow("\U0010ffff", api.Attr{Marks: 255}), wide("\U00020000", api.Attr{Back: 300})) {
				if x, y := i%w, i/w; x+len(letter) <= w {
					a.show(below)
					a.show(with(below, func(p *api.Picture) { put(p, x, y, letter) }))
					a.show(with(below, func(p *api.Picture) {
						put(p, x, y, letter)
						p.X, p.Y = min(x+len(letter), w-1), y
					}))
				}
			}
		}
	}
}

func TestP202Titles(t *testing.T) {
	titles := []string{"", "a", "b", "ab", "", "0;", "2;", "2;x", ";", "]", "\\", "[m", "\u4e00\u4e01", "\x80", "\x9b", "\x9c", "\x9d", "\xff\xfe", "\xe4\xb8", " ", "  x  ", strings.Repeat("x", 127), strings.Repeat("x", 128), strings.Repeat("\xe4", 128), strings.Repeat("2;", 64), ""}
	for b := 32; b < 256; b++ {
		if b != 127 {
			titles = append(titles, string([]byte{byte(b)}), "a"+string([]byte{byte(b)})+"c")
		}
	}
	a := begun(t, 4, 2)
	for i, title := range titles {
		a.show(with(a.at, func(p *api.Picture) { p.Title = title }))
		a.show(with(a.at, func(p *api.Picture) { put(p, i%4, i/4%2, narrow(fmt.Sprint(i%10), api.Attr{})) }))
		a.show(with(a.at, func(p *api.Picture) {
			p.Title, p.Hidden, p.X = titles[len(titles)-1-i], i%2 == 0, i%4
			put(p, i%3, 1, wide("\u4e00", api.Attr{Fore: 1 + i}))
		}))
		a.show(with(a.at, func(p *api.Picture) { p.Title = "" }))
	}
}

// Long chains of pictures by chance, of many sizes.
func TestP202LongChains(t *testing.T) {
	spread(600, func(i int) {
		d := dealt(10000 + i)
		w, h := d.size()
		a := begun(t, w, h)
		for range 150 {
			if !a.show(d.next(a.at)) {
				return
			}
		}
		a.show(blank(t, w, h))
	})
}

// Chains of pictures that have nothing in common.
func TestP202WildChains(t *testing.T) {
	spread(600, func(i int) {
		d := dealt(20000 + i)
		w, h := d.size()
		a := begun(t, w, h)
		for range 20 {
			next := with(a.at, func(p *api.Picture) {
				d.whole(p)
				p.X, p.Y, p.Hidden, p.Title = d.Intn(w), d.Intn(h), d.Intn(2) == 0, d.title()
			})
			if !a.show(next) || d.Intn(4) == 0 && !a.show(blank(t, w, h)) {
				return
			}
		}
	})
}

// Two terminals, of which one shows what the other one's program has drawn.
func TestP202Screens(t *testing.T) {
	spread(600, func(i int) {
		d := dealt(30000 + i)
		w, h := d.size()
		a := begun(t, w, h)
		drawing, _ := vt.New(w, h, 0)
		for range 60 {
			drawing.Feed(d.program())
			if !a.show(drawing.Picture()) {
				return
			}
		}
	})
}

func TestP202Large(t *testing.T) {
	for i, size := range [][2]int{{1000, 1000}, {1000, 1}, {1, 1000}, {999, 3}, {3, 999}} {
		d := dealt(40000 + i)
		a := begun(t, size[0], size[1])
		a.show(with(a.at, d.whole))
		a.show(with(a.at, d.change))
		a.show(with(a.at, d.whole))
		a.show(blank(t, size[0], size[1]))
	}
}

// What was begun by the bytes is ended by them: each text is whole, so bytes
// that are not paint's find the terminal at rest.
func TestP202AtRest(t *testing.T) {
	spread(400, func(i int) {
		d := dealt(50000 + i)
		w, h := d.size()
		a := begun(t, w, h)
		for range 5 {
			a.show(d.next(a.at))
		}
		plainOne, _ := vt.New(w, h, 0)
		for _, s := range []*vt.Screen{a.s, plainOne} {
			s.Feed("\x1b[2J\x1b[H\x1b[?25h\x1b]2;\a" + strings.Repeat("qx\u4e00\r\n\t~", 9) + "\x1b[6n")
		}
		if !samePicture(a.s.Picture(), plainOne.Picture()) || a.s.Answer() != plainOne.Answer() {
			t.Errorf("the terminal is not at rest behind %s", drawn(a.at))
		}
	})
}

func TestP203NothingForNothing(t *testing.T) {
	spread(400, func(i int) {
		d := dealt(60000 + i)
		w, h := d.size()
		p := blank(t, w, h)
		for range 12 {
			for _, other := range []api.Picture{p, copied(p)} {
				if data, err := Bytes(p, other); data != "" || err != api.OK {
					t.Errorf("from %s to itself: %q, error %d", drawn(p), data, err)
				}
			}
			p = d.next(p)
		}
		p = with(p, d.whole)
		if data, err := Bytes(p, copied(p)); data != "" || err != api.OK {
			t.Errorf("from %s to itself: %q, error %d", drawn(p), data, err)
		}
	})
}

// Pictures with the cursor where a letter was just written, in the last column too.
func TestP203BehindLetters(t *testing.T) {
	for x := range 4 {
		for y := range 2 {
			a := begun(t, 4, 2)
			a.show(with(a.at, func(p *api.Picture) {
				put(p, x, y, narrow("a", api.Attr{Fore: 3}))
				p.X, p.Y = min(x+1, 3), y
			}))
			if data, err := Bytes(a.at, a.s.Picture()); data != "" || err != api.OK {
				t.Errorf("%q, error %d", data, err)
			}
		}
	}
}

func TestP205AlwaysTheSame(t *testing.T) {
	d := dealt(70000)
	type pair struct{ from, to api.Picture }
	var pairs []pair
	var told []string
	for range 200 {
		w, h := d.size()
		from := with(blank(t, w, h), d.whole)
		to := d.next(from)
		data, _ := Bytes(from, to)
		pairs, told = append(pairs, pair{from, to}), append(told, data)
	}
	for range 5 {
		for _, i := range d.Perm(len(pairs)) {
			Bytes(pairs[i].to, pairs[i].from)
			if data, _ := Bytes(copied(pairs[i].from), copied(pairs[i].to)); data != told[i] {
				t.Errorf("%q at first, then %q", told[i], data)
			}
		}
	}
}
