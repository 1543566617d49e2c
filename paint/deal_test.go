package paint

import (
	"fmt"
	"math/rand"
	"strings"

	"mullion/api"
)

// dealer makes pictures by chance.
type dealer struct{ *rand.Rand }

func dealt(seed int) dealer { return dealer{rand.New(rand.NewSource(int64(seed)))} }

// colour is one of each kind, the first and the last ones of each more often.
func (d dealer) colour() int {
	switch d.Intn(6) {
	case 0, 1:
		return 0
	case 2:
		return 1 + d.Intn(16)
	case 3:
		return 17 + d.Intn(240)
	case 4:
		return 257 + d.Intn(1<<24)
	}
	ends := []int{1, 8, 9, 16, 17, 256, 257, 258, 257 + 255, 257 + 256, 257 + 65535, 257 + 65536, 257 + 1<<24 - 1}
	return ends[d.Intn(len(ends))]
}

func (d dealer) attr() api.Attr {
	switch d.Intn(5) {
	case 0, 1:
		return api.Attr{}
	case 2:
		return api.Attr{Marks: 1 << d.Intn(8)}
	case 3:
		return api.Attr{Back: 1 + d.Intn(3)}
	}
	return api.Attr{Fore: d.colour(), Back: d.colour(), Marks: d.Intn(256)}
}

// letter is one that fits within some places.
func (d dealer) letter(room int, attr api.Attr) []api.Glyph {
	if room > 1 && d.Intn(3) == 0 {
		wides := []rune{0x1100, 0x3042, 0xac00, 0xff21, 0x1f600, 0x20000, 0x3fffd, 0x4e00 + rune(d.Intn(400))}
		return wide(string(wides[d.Intn(len(wides))]), attr)
	}
	narrows := []rune{' ', ' ', ' ', '~', 'j', 'q', 0xa0, 0xe9, 0x2500, 0xfffd, 0xffff, 0x10000, 0x10ffff, 0x20 + rune(d.Intn(0x5f)), 0x61 + rune(d.Intn(26))}
	return narrow(string(narrows[d.Intn(len(narrows))]), attr)
}

func (d dealer) title() string {
	switch d.Intn(6) {
	case 0, 1:
		return ""
	case 2:
		return []string{"sh", "vi", "0;", "2;x", ";", "\\", "a b", "\u4e00", "\x9c", "\xff"}[d.Intn(10)]
	}
	title := make([]byte, d.Intn(129))
	for i := range title {
		for title[i] < 32 || title[i] == 127 {
			title[i] = byte(d.Intn(256))
		}
	}
	return string(title)
}

// whole fills a picture anew.
func (d dealer) whole(p *api.Picture) {
	attr := d.attr()
	for y := range p.H {
		for x := 0; x < p.W; {
			if d.Intn(3) == 0 {
				attr = d.attr()
			}
			letter := d.letter(p.W-x, attr)
			copy(p.Places[p.W*y+x:], letter)
			x += len(letter)
		}
	}
}

// change changes something of a picture.
func (d dealer) change(p *api.Picture) {
	switch d.Intn(12) {
	case 0:
		p.X, p.Y = d.Intn(p.W), d.Intn(p.H)
	case 1:
		p.X, p.Y = p.W-1, d.Intn(p.H)
	case 2:
		p.Hidden = !p.Hidden
	case 3:
		p.Title = d.title()
	case 4:
		copy(p.Places, p.Places[p.W:]) // the rows go up
	case 5:
		copy(p.Places[p.W:], p.Places) // and down
	case 6:
		for x, y := 0, d.Intn(p.H); x < p.W; x++ {
			put(p, x, y, narrow(" ", api.Attr{}))
		}
	case 7:
		if d.Intn(4) == 0 {
			d.whole(p)
		}
	default:
		for range 1 + d.Intn(4) {
			x, y := d.Intn(p.W), d.Intn(p.H)
			put(p, x, y, d.letter(p.W-x, d.attr()))
		}
	}
}

// next is another picture of the same size.
func (d dealer) next(p api.Picture) api.Picture {
	return with(p, func(p *api.Picture) {
		for range 1 + d.Intn(4) {
			d.change(p)
		}
	})
}

func (d dealer) size() (int, int) {
	sizes := [][2]int{{1, 1}, {1, 1 + d.Intn(6)}, {1 + d.Intn(9), 1}, {2, 2}, {1 + d.Intn(12), 1 + d.Intn(6)}, {1 + d.Intn(90), 1 + d.Intn(30)}}
	size := sizes[d.Intn(len(sizes))]
	return size[0], size[1]
}

// program is bytes that a pane's program may write.
func (d dealer) program() string {
	var b strings.Builder
	for range 1 + d.Intn(12) {
		switch d.Intn(14) {
		case 0, 1, 2, 3:
			for range 1 + d.Intn(30) {
				b.WriteString(d.letter(2, api.Attr{})[0].Text)
			}
		case 4:
			fmt.Fprintf(&b, "\x1b[%d;%d;%dm", d.Intn(50), d.Intn(50), 90+d.Intn(20))
		case 5:
			fmt.Fprintf(&b, "\x1b[%d8;5;%dm\x1b[%d8;2;%d;%d;%dm", 3+d.Intn(2), d.Intn(256), 3+d.Intn(2), d.Intn(256), d.Intn(256), d.Intn(256))
		case 6:
			fmt.Fprintf(&b, "\x1b[%d;%dH", d.Intn(30), d.Intn(90))
		case 7:
			fmt.Fprintf(&b, "\x1b[%d%c", d.Intn(6), "@ABCDEFGHJJKKLMPSTXbd"[d.Intn(21)])
		case 8:
			fmt.Fprintf(&b, "\x1b[%d;%dr", d.Intn(5), d.Intn(9))
		case 9:
			b.WriteString([]string{"\x1b[?25l", "\x1b[?25h", "\x1b[?7l", "\x1b[?7h", "\x1b[4h", "\x1b[4l", "\x1b[?1049h", "\x1b[?1049l", "\x1b(0", "\x1b(B", "\x1b7", "\x1b8", "\x1b#8", "\x1b[!p"}[d.Intn(14)])
		case 10:
			b.WriteString("\x1b]2;" + d.title() + "\a")
		case 11:
			for range d.Intn(9) {
				b.WriteByte(byte(d.Intn(256)))
			}
		default:
			b.WriteString([]string{"\r\n", "\r\n\r\n", "\n", "\t", "\b", "\x1bM"}[d.Intn(6)])
		}
	}
	return b.String()
}
