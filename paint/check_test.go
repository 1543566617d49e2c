package paint

import (
	"math"
	"strings"
	"testing"

	"mullion/api"
	"mullion/vt"
)

// wantCheck asks whether a picture may be, as it is told here and as the model says.
func wantCheck(t *testing.T, p api.Picture, may bool, what ...any) {
	t.Helper()
	want := api.ErrPicture
	if may {
		want = api.OK
	}
	if got := Check(p); got != want {
		t.Errorf("%v: Check of %s answers error %d, not %d", what, drawn(p), got, want)
	}
	if goodByText(p) != may {
		t.Errorf("%v: the model says otherwise of %s", what, drawn(p))
	}
}

// plain is a picture with so many places, whatever its sides are.
func plain(w, h, places int) api.Picture {
	p := api.Picture{W: w, H: h, Places: make([]api.Glyph, places)}
	for i := range p.Places {
		p.Places[i] = narrow(" ", api.Attr{})[0]
	}
	return p
}

func TestP201CheckSides(t *testing.T) {
	sides := []int{math.MinInt, -1000, -1, 0, 1, 2, 999, 1000, 1001, 1 << 32, math.MaxInt}
	for _, w := range sides {
		for _, h := range sides {
			places := 0 // some products wrap round to few places
			if n := w * h; n >= 0 && n <= 1001*1001 {
				places = n
			}
			wantCheck(t, plain(w, h, places), 1 <= w && w <= 1000 && 1 <= h && h <= 1000, w, h)
		}
	}
	wantCheck(t, api.Picture{}, false)
}

func TestP201CheckNumberOfPlaces(t *testing.T) {
	for _, size := range [][2]int{{1, 1}, {1, 4}, {4, 1}, {3, 2}, {5, 3}, {1000, 1}, {1, 1000}} {
		w, h := size[0], size[1]
		for _, n := range []int{0, 1, w, h, w*h - w, w*h - 1, w * h, w*h + 1, w*h + w, w * h * 2} {
			wantCheck(t, plain(w, h, n), n == w*h, size, n)
		}
		p := plain(w, h, 0)
		p.Places = nil
		wantCheck(t, p, false, size)
	}
}

func TestP201CheckCursor(t *testing.T) {
	for _, size := range [][2]int{{1, 1}, {1, 4}, {4, 1}, {5, 3}, {3, 5}, {1000, 2}, {2, 1000}} {
		w, h := size[0], size[1]
		for _, x := range []int{math.MinInt, -1, 0, 1, w - 1, w, h - 1, h, w * h, math.MaxInt} {
			for _, y := range []int{math.MinInt, -1, 0, 1, w - 1, w, h - 1, h, w * h, math.MaxInt} {
				for _, hidden := range []bool{false, true} {
					p := plain(w, h, w*h)
					p.X, p.Y, p.Hidden = x, y, hidden
					wantCheck(t, p, 0 <= x && x < w && 0 <= y && y < h, size, x, y)
				}
			}
		}
	}
}

// Each code point alone as a text, with each width.
func TestP201CheckLetters(t *testing.T) {
	spread(0x110000, func(i int) {
		text, width := string(rune(i)), vt.Width(rune(i))
		if i >= 0xd800 && i <= 0xdfff {
			text = string([]byte{0xed, 0x80 | byte(i>>6&0x3f), 0x80 | byte(i&0x3f)})
		}
		one := api.Picture{W: 1, H: 1, Places: narrow(text, api.Attr{})}
		two := api.Picture{W: 2, H: 1, Places: wide(text, api.Attr{})}
		if good := Check(one) == api.OK; good != (width == 1) {
			t.Errorf("%x with Width 1: %v", i, good)
		}
		if good := Check(two) == api.OK; good != (width == 2) {
			t.Errorf("%x with Width 2: %v", i, good)
		}
	})
}

// texts are what a glyph may have, or may not.
var texts = []string{
	"", " ", "a", "~", "\u00a0", "\u00e9", "\u2500", "\ufffd", "\uffff", "\U00010000", "\U0010ffff", // of width 1, but the first
	"\u1100", "\u4e00", "\uff01", "\U0001f600", "\U0003fffd", // of width 2
	"\u0300", "\u200b", "\ufeff", "\ufe0f", // of width 0
	"\x00", "\x07", "\x08", "\t", "\n", "\r", "\x18", "\x1b", "\x1f", "\x7f", "\u0080", "\u009b", "\u009f", // no letters
	"ab", "  ", "a\u0301", "\u4e00\u4e01", "\u4e00 ", " \u4e00", "aa\u4e00", "\u00e9\u00e9", "\ufffd\ufffd", "\u4e00\u0301", "a\x00", "\x00a", // two and more
	"\x80", "\xbf", "\xc2", "\xe4", "\xe4\xb8", "\xf0\x9f\x98", "\xff", "\xfe", "a\x80", "\x80a", "\xe4\xb8\x80\x80", "\xe4\xb8a", // broken ones
	"\xc0\x80", "\xc0\xa0", "\xc1\x81", "\xc1\xbf", "\xe0\x81\x81", "\xe0\x9f\xbf", "\xe0\x80\xa0", "\xf0\x84\xb8\x80", "\xf0\x8f\xbf\xbf", // longer than need be
	"\xed\xa0\x80", "\xed\xbf\xbf", "\xf4\x90\x80\x80", "\xf5\x80\x80\x80", "\xf8\x88\x80\x80\x80", // no code points
}

// Each Width with each Text, in the first, a middle and the last column, of the
// first and the last row, with and without a right place beside it.
func TestP201CheckWidthsAndTexts(t *testing.T) {
	for _, text := range texts {
		for _, width := range []int{math.MinInt, -2, -1, 0, 1, 2, 3, 4, math.MaxInt} {
			for i := range 9 {
				p := plain(3, 3, 9)
				p.Places[i].Text, p.Places[i].Width = text, width
				wantCheck(t, p, width == 1 && letterWidth(text) == 1, text, width, i)
				if i+1 < 9 {
					p.Places[i+1] = api.Glyph{}
					wantCheck(t, p, width == 2 && letterWidth(text) == 2 && i%3 < 2, text, width, i)
				}
				if i > 0 {
					p = plain(3, 3, 9)
					p.Places[i-1] = wide("\u4e00", api.Attr{})[0]
					p.Places[i].Text, p.Places[i].Width = text, width
					wantCheck(t, p, width == 0 && text == "" && i%3 > 0, text, width, i)
				}
			}
		}
	}
}

// A letter of width 2 does not go on in the next row.
func TestP201CheckWideAtTheEnd(t *testing.T) {
	letter := wide("\u4e00", api.Attr{})
	for _, w := range []int{1, 2, 3, 5, 1000} {
		for x := range w {
			for y := range 2 {
				p := plain(w, 3, 3*w)
				copy(p.Places[w*y+x:], letter)
				wantCheck(t, p, x < w-1, w, x, y)
			}
			p := plain(w, 3, 3*w)
			p.Places[2*w+x] = letter[0]
			wantCheck(t, p, false, w, x)
			p.Places[2*w+x] = letter[1]
			wantCheck(t, p, false, w, x)
		}
	}
}

// All rows of up to four places, of glyphs that may and may not stand beside each other.
func TestP201CheckAllRows(t *testing.T) {
	red := api.Attr{Fore: 2}
	glyphs := []api.Glyph{
		narrow("a", api.Attr{})[0], narrow(" ", red)[0], wide("\u4e00", api.Attr{})[0], wide("\u4e00", red)[0], {}, {Attr: red},
		{Text: " "}, {Text: "a", Width: 2}, {Text: "\u4e00", Width: 1}, {Width: 1}, {Width: 2}, {Text: "a", Width: 1, Attr: api.Attr{Marks: 256}},
	}
	for w := 1; w <= 4; w++ {
		all := int(math.Pow(float64(len(glyphs)), float64(w)))
		for n := range all {
			p := api.Picture{W: w, H: 1}
			for rest := n; len(p.Places) < w; rest /= len(glyphs) {
				p.Places = append(p.Places, glyphs[rest%len(glyphs)])
			}
			wantCheck(t, p, goodRow(p.Places), n)
			p.W, p.H = 1, w
			if Check(p) != api.OK && goodByText(p) || Check(p) == api.OK && !goodByText(p) {
				t.Errorf("Check of %s answers error %d", drawn(p), Check(p))
			}
		}
	}
}

// Colours and marks at their bounds, of each kind of place.
func TestP201CheckAttrs(t *testing.T) {
	numbers := []int{math.MinInt, -257, -256, -1, 0, 1, 8, 9, 16, 17, 127, 128, 254, 255, 256, 257, 258, 512, 65536, 16777215, 16777216, 257 + 16777214, 257 + 16777215, 257 + 16777216, 1 << 32, math.MaxInt}
	for _, n := range numbers {
		colour, marks := n >= 0 && n <= 257+16777215, n >= 0 && n <= 255
		for _, c := range []struct {
			attr api.Attr
			may  bool
		}{{api.Attr{Fore: n}, colour}, {api.Attr{Back: n}, colour}, {api.Attr{Marks: n}, marks}, {api.Attr{Fore: n, Back: n}, colour}} {
			for y := range 2 {
				for x := range 3 {
					p := plain(3, 2, 6)
					put(&p, x, y, narrow("a", c.attr))
					wantCheck(t, p, c.may, c.attr, x, y)
					if x < 2 {
						p = plain(3, 2, 6)
						put(&p, x, y, wide("\u4e00", c.attr))
						wantCheck(t, p, c.may, c.attr, x, y)
					}
				}
			}
			p := plain(3, 2, 6)
			put(&p, 0, 1, wide("\u4e00", api.Attr{}))
			p.Places[4].Attr = c.attr
			wantCheck(t, p, c.attr == api.Attr{}, c.attr)
			p.Places[3].Attr, p.Places[4].Attr = c.attr, api.Attr{}
			wantCheck(t, p, c.attr == api.Attr{}, c.attr)
		}
	}
}

// A right place whose Attr differs from its left one's in one thing alone.
func TestP201CheckRightAttr(t *testing.T) {
	for _, attr := range []api.Attr{{}, {Fore: 1}, {Back: 1}, {Marks: 1}, {Fore: 5, Back: 300, Marks: 255}} {
		for _, change := range []api.Attr{{Fore: 1}, {Back: 1}, {Fore: -1}} {
			p := plain(2, 1, 2)
			put(&p, 0, 0, wide("\u4e00", attr))
			wantCheck(t, p, true, attr)
			p.Places[1].Attr = api.Attr{Fore: attr.Fore + change.Fore, Back: attr.Back + change.Back, Marks: attr.Marks}
			wantCheck(t, p, false, attr, change)
			p.Places[1].Attr = api.Attr{Fore: attr.Fore, Back: attr.Back, Marks: attr.Marks ^ 4}
			wantCheck(t, p, false, attr)
		}
	}
}

func TestP201CheckTitles(t *testing.T) {
	for _, n := range []int{0, 1, 2, 126, 127, 128, 129, 130, 256, 5000} {
		p := plain(2, 2, 4)
		p.Title = strings.Repeat("x", n)
		wantCheck(t, p, n <= 128, n)
		p.Title = strings.Repeat("\xff", n)
		wantCheck(t, p, n <= 128, n)
	}
	for b := range 256 {
		one := string([]byte{byte(b)})
		for _, title := range []string{one, one + "abc", "abc" + one, "a" + one + "c", strings.Repeat("x", 127) + one, one + strings.Repeat("x", 127)} {
			p := plain(2, 2, 4)
			p.Title = title
			wantCheck(t, p, b >= 32 && b != 127, title)
		}
	}
}

// spoils make a picture of 4 x 3 or more, whose first places are `a`, a letter
// of width 2 and `b`, one that may not be.
var spoils = []func(*api.Picture){
	func(p *api.Picture) { p.W = 0 },
	func(p *api.Picture) { p.H = 0 },
	func(p *api.Picture) { p.W = -p.W },
	func(p *api.Picture) { p.W, p.H = -p.W, -p.H },
	func(p *api.Picture) { p.W++ },
	func(p *api.Picture) { p.H-- },
	func(p *api.Picture) { p.Places = nil },
	func(p *api.Picture) { p.Places = p.Places[:len(p.Places)-1] },
	func(p *api.Picture) { p.Places = append(p.Places, narrow(" ", api.Attr{})[0]) },
	func(p *api.Picture) { p.X = -1 },
	func(p *api.Picture) { p.X = p.W },
	func(p *api.Picture) { p.Y = -1 },
	func(p *api.Picture) { p.Y = p.H },
	func(p *api.Picture) { p.Places[0].Width = 0 },
	func(p *api.Picture) { p.Places[0].Width = 2 },
	func(p *api.Picture) { p.Places[0].Width = 3 },
	func(p *api.Picture) { p.Places[0].Text = "" },
	func(p *api.Picture) { p.Places[0].Text = "ab" },
	func(p *api.Picture) { p.Places[0].Text = "\x1b" },
	func(p *api.Picture) { p.Places[0].Text = "\xc1\x81" },
	func(p *api.Picture) { p.Places[1].Text = "a" },
	func(p *api.Picture) { p.Places[1].Width = 1 },
	func(p *api.Picture) { p.Places[1] = narrow("a", api.Attr{})[0] },
	func(p *api.Picture) { p.Places[2].Attr.Back = 1 },
	func(p *api.Picture) { p.Places[2].Text = " " },
	func(p *api.Picture) { p.Places[2] = narrow("a", api.Attr{})[0] },
	func(p *api.Picture) { p.Places[3] = api.Glyph{} },
	func(p *api.Picture) { p.Places[len(p.Places)-1] = wide("\u4e00", api.Attr{})[0] },
	func(p *api.Picture) { p.Places[len(p.Places)-1].Attr.Fore = 257 + 1<<24 },
	func(p *api.Picture) { p.Places[0].Attr.Back = -1 },
	func(p *api.Picture) { p.Places[0].Attr.Marks = 256 },
	func(p *api.Picture) { p.Title = "\n" },
	func(p *api.Picture) { p.Title = "\x7f" },
	func(p *api.Picture) { p.Title = strings.Repeat("x", 129) },
}

// spoilable is a picture for spoils.
func spoilable(w, h int) api.Picture {
	p := plain(w, h, w*h)
	put(&p, 0, 0, narrow("a", api.Attr{}))
	put(&p, 1, 0, wide("\u4e00", api.Attr{}))
	put(&p, 3, 0, narrow("b", api.Attr{}))
	return p
}

func TestP201CheckSpoilt(t *testing.T) {
	for _, size := range [][2]int{{4, 3}, {5, 5}, {80, 24}} {
		p := spoilable(size[0], size[1])
		wantCheck(t, p, true)
		for i, spoil := range spoils {
			wantCheck(t, with(p, spoil), false, i)
		}
	}
}

// Pictures by chance, and each with something changed that may spoil it.
func TestP201CheckByChance(t *testing.T) {
	spread(4000, func(i int) {
		d := dealt(1000 + i)
		w, h := d.size()
		p := d.next(with(plain(w, h, w*h), d.whole))
		wantCheck(t, p, true, i)
		for range 6 {
			spoilt := copied(p)
			at := d.Intn(len(p.Places))
			switch g := &spoilt.Places[at]; d.Intn(7) {
			case 0:
				g.Width = d.Intn(5) - 1
			case 1:
				g.Text = texts[d.Intn(len(texts))]
			case 2:
				g.Attr = d.attr()
			case 3:
				g.Attr.Fore = d.Intn(1<<25) - 1<<20
			case 4:
				*g = spoilt.Places[d.Intn(len(p.Places))]
			case 5:
				spoilt.X, spoilt.Y = d.Intn(w+3)-1, d.Intn(h+3)-1
			case 6:
				spoilt.Title += string([]byte{byte(d.Intn(256))})
			}
			wantCheck(t, spoilt, goodByText(spoilt), i)
		}
	})
}

// What a screen tells may be, whatever it was fed.
func TestP201CheckScreens(t *testing.T) {
	spread(400, func(i int) {
		d := dealt(6000 + i)
		w, h := d.size()
		s, _ := vt.New(w, h, 0)
		for range 20 {
			s.Feed(d.program())
			wantCheck(t, s.Picture(), true, i)
		}
	})
}
