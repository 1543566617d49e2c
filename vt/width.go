package vt

import "math"

// noLetter is the width of a number that is no letter's.
const noLetter = -1

// spans are all letters, and all that are none, whose width is not 1.
var spans = []struct {
	first, last rune
	width       int
}{
	{math.MinInt32, 0x1f, noLetter}, {0x7f, 0x9f, noLetter}, {0xd800, 0xdfff, noLetter}, {0x110000, math.MaxInt32, noLetter},
	{0x300, 0x36f, 0}, {0x200b, 0x200f, 0}, {0x2028, 0x202e, 0}, {0x20d0, 0x20ff, 0}, {0xfe00, 0xfe0f, 0}, {0xfeff, 0xfeff, 0},
	{0x1100, 0x115f, 2}, {0x2e80, 0x303e, 2}, {0x3041, 0x33ff, 2}, {0x3400, 0x4dbf, 2}, {0x4e00, 0x9fff, 2}, {0xa000, 0xa4cf, 2}, {0xac00, 0xd7a3, 2},
	{0xf900, 0xfaff, 2}, {0xfe30, 0xfe6f, 2}, {0xff00, 0xff60, 2}, {0xffe0, 0xffe6, 2}, {0x1f300, 0x1f64f, 2}, {0x1f900, 0x1f9ff, 2}, {0x20000, 0x3fffd, 2},
}

// Width tells how many places a letter takes.
func Width(letter rune) int {
	if space <= letter && letter < del {
		return 1 // by far the most are asked of these
	}
	for _, s := range spans {
		if s.first <= letter && letter <= s.last {
			return s.width
		}
	}
	return 1
}
