package vt

import (
	"math"
	"regexp"
	"strconv"
	"testing"
)

// What the chapter says of widths, in its own words.
const (
	zeroWide  = "0300 to 036F, 200B to 200F, 2028 to 202E, 20D0 to 20FF, FE00 to FE0F, FEFF"
	twoWide   = "1100 to 115F, 2E80 to 303E, 3041 to 33FF, 3400 to 4DBF, 4E00 to 9FFF, A000 to A4CF, AC00 to D7A3, F900 to FAFF, FE30 to FE6F, FF00 to FF60, FFE0 to FFE6, 1F300 to 1F64F, 1F900 to 1F9FF, 20000 to 3FFFD"
	noLetters = "0 to 1F, 7F to 9F, D800 to DFFF"
)

// numbersOf is the ranges of such a text, from and to in turns.
func numbersOf(text string) []rune {
	var list []rune
	for _, m := range regexp.MustCompile(`([0-9A-F]+)(?: to ([0-9A-F]+))?`).FindAllStringSubmatch(text, -1) {
		from, _ := strconv.ParseInt(m[1], 16, 32)
		to, err := strconv.ParseInt(m[2], 16, 32)
		if err != nil {
			to = from
		}
		list = append(list, rune(from), rune(to))
	}
	return list
}

// widthTable is the width of each code point.
var widthTable = func() []int8 {
	table := make([]int8, 0x110000)
	for i := range table {
		table[i] = 1
	}
	for width, text := range map[int8]string{0: zeroWide, 2: twoWide, -1: noLetters} {
		list := numbersOf(text)
		for i := 0; i < len(list); i += 2 {
			for c := list[i]; c <= list[i+1]; c++ {
				table[c] = width
			}
		}
	}
	return table
}()

func widthByText(letter rune) int {
	if letter < 0 || int(letter) >= len(widthTable) {
		return -1
	}
	return int(widthTable[letter])
}

// Every code point, and numbers that are none.
func TestV1Width(t *testing.T) {
	for letter := rune(-70000); letter < 0x120000; letter++ {
		if got, want := Width(letter), widthByText(letter); got != want {
			t.Errorf("Width(%x) is %d, not %d", letter, got, want)
		}
	}
	for _, letter := range []rune{math.MinInt32, math.MinInt32 + 1, math.MaxInt32 - 1, math.MaxInt32, 0x7ffffff0, -0x110000} {
		if got := Width(letter); got != -1 {
			t.Errorf("Width(%x) is %d", letter, got)
		}
	}
}

// The ends of each range, one by one, as they stand in the chapter.
func TestV1WidthAtTheEnds(t *testing.T) {
	for letter, want := range map[rune]int{
		-1: -1, 0: -1, 0x1f: -1, 0x20: 1, 0x7e: 1, 0x7f: -1, 0x80: -1, 0x9f: -1, 0xa0: 1, 0xff: 1,
		0x2ff: 1, 0x300: 0, 0x36f: 0, 0x370: 1, 0x10ff: 1, 0x1100: 2, 0x115f: 2, 0x1160: 1,
		0x200a: 1, 0x200b: 0, 0x200f: 0, 0x2010: 1, 0x2027: 1, 0x2028: 0, 0x202e: 0, 0x202f: 1, 0x20cf: 1, 0x20d0: 0, 0x20ff: 0, 0x2100: 1,
		0x2e7f: 1, 0x2e80: 2, 0x303e: 2, 0x303f: 1, 0x3040: 1, 0x3041: 2, 0x33ff: 2, 0x3400: 2, 0x4dbf: 2, 0x4dc0: 1, 0x4dff: 1, 0x4e00: 2, 0x9fff: 2, 0xa000: 2, 0xa4cf: 2, 0xa4d0: 1,
		0xabff: 1, 0xac00: 2, 0xd7a3: 2, 0xd7a4: 1, 0xd7ff: 1, 0xd800: -1, 0xdfff: -1, 0xe000: 1, 0xf8ff: 1, 0xf900: 2, 0xfaff: 2, 0xfb00: 1,
		0xfdff: 1, 0xfe00: 0, 0xfe0f: 0, 0xfe10: 1, 0xfe2f: 1, 0xfe30: 2, 0xfe6f: 2, 0xfe70: 1, 0xfefe: 1, 0xfeff: 0, 0xff00: 2, 0xff60: 2, 0xff61: 1,
		0xffdf: 1, 0xffe0: 2, 0xffe6: 2, 0xffe7: 1, 0xfffd: 1, 0xffff: 1, 0x10000: 1, 0x1f2ff: 1, 0x1f300: 2, 0x1f64f: 2, 0x1f650: 1, 0x1f8ff: 1, 0x1f900: 2, 0x1f9ff: 2, 0x1fa00: 1,
		0x1ffff: 1, 0x20000: 2, 0x3fffd: 2, 0x3fffe: 1, 0x10ffff: 1, 0x110000: -1,
	} {
		if got := Width(letter); got != want {
			t.Errorf("Width(%x) is %d, not %d", letter, got, want)
		}
	}
}
