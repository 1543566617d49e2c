package scene

import (
	"math"
	"slices"
	"strings"
	"testing"

	"mullion/api"
)

// statuses asks for a status row, and holds it against the model.
func statuses(t testing.TB, text string, width int) []api.Glyph {
	t.Helper()
	got, err := Status(text, width)
	if want := statusOf(text, width); err != api.OK || !slices.Equal(got, want) {
		t.Fatalf("%.40q in %d places answers %d, %.200q, and not %.200q", text, width, err, textOf(got), textOf(want))
	}
	return got
}

// The widths that may be are those from 1 to MaxSide.
func TestP261Widths(t *testing.T) {
	for _, text := range []string{"", "a", "ok", strings.Repeat("a", 2000), strings.Repeat("\u4e00", 1000), "\xff"} {
		for _, width := range []int{1, 2, 3, 80, 999, 1000, api.MaxSide} {
			if got := statuses(t, text, width); len(got) != width {
				t.Errorf("%d places, and not %d", len(got), width)
			}
		}
		for _, width := range []int{0, -1, 1001, api.MaxSide + 1, math.MinInt, math.MaxInt, 1 << 32, 1<<32 + 1} {
			if got, err := Status(text, width); got != nil || err != 41 {
				t.Errorf("the width %d answers %d places, %d", width, len(got), err)
			}
		}
	}
}

// Rows as they are written down; behind a letter of width 2 stands an underline.
func TestP261Rows(t *testing.T) {
	for _, c := range []struct {
		text  string
		width int
		want  string
	}{
		{"", 1, " "}, {"", 4, "    "}, {"ok", 1, "o"}, {"ok", 2, "ok"}, {"ok", 3, "ok "}, {"abcdef", 5, "abcde"}, {" a ", 5, " a   "},
		{"\u4e00", 1, " "}, {"\u4e00", 2, "\u4e00_"}, {"\u4e00", 3, "\u4e00_ "}, {"\u4e00\u4e01", 3, "\u4e00_ "}, {"\u4e00\u4e01", 4, "\u4e00_\u4e01_"}, {"a\u4e00", 2, "a "}, {"a\u4e00b", 3, "a\u4e00_"},
		{"\u4e00b", 1, " "}, {"a\u4e00b", 2, "a "}, {"a\u4e00\u0301bc", 2, "a "}, {"ab\u4e00c\u4e00", 3, "ab "}, // what stands behind one that does not fit goes with it
		{"e\u0301x", 2, "ex"}, {"\u0301", 2, "  "}, {"ab\u0301", 2, "ab"}, {"ab\u0301c", 2, "ab"}, {"\u200b\u2028\ufeff\ufe0fa", 3, "a  "},
		{"\xff", 2, "? "}, {"\x80\x81a", 4, "??a "}, {"\xe4\xb8a", 4, "??a "}, {"\xe4\xb8\x80", 2, "\u4e00_"}, {"a\xe4", 3, "a? "}, {"\xed\xa0\x80", 4, "??? "}, {"\xf4\x90\x80\x80", 5, "???? "}, {"\xc0\x80", 3, "?? "},
		{"\x00\x1f\x7f", 4, "??? "}, {"\u0080\u009f\u00a0", 4, "??\u00a0 "}, {"a\nb\t", 5, "a?b? "}, {"\x1b[1m", 4, "?[1m"},
		{"\ufffd\xff", 3, "\ufffd? "}, {"\U0001f600\U0010ffff", 4, "\U0001f600_\U0010ffff "}, {"\uffff", 2, "\uffff "},
	} {
		got := statuses(t, c.text, c.width)
		for i, letter := range []rune(c.want) {
			g := api.Glyph{Text: string(letter), Width: 1, Attr: api.Attr{Fore: 1, Back: 3, Marks: 0}}
			if i+1 < len([]rune(c.want)) && []rune(c.want)[i+1] == '_' {
				g.Width = 2
			}
			if letter == '_' {
				g.Text, g.Width = "", 0
			}
			if got[i] != g {
				t.Errorf("%q in %d places: place %d is %v, and not %v", c.text, c.width, i, got[i], g)
			}
		}
	}
}

// Each code point by itself, at the row's end and ahead of it.
func TestP261CodePoints(t *testing.T) {
	for letter := rune(0); letter <= 0x10ffff; letter += 1 + letter/4000 {
		text := string(letter)
		statuses(t, text+"a", 1)
		statuses(t, text+"ab", 2)
		statuses(t, "b"+text+"a", 2)
	}
}

// Every pair of bytes, and every third one behind some pairs.
func TestP261Bytes(t *testing.T) {
	for i := range 256 {
		for j := range 256 {
			statuses(t, string([]byte{byte(i), byte(j)}), 3)
		}
		for _, ahead := range []string{"\xe0\xa0", "\xe4\xb8", "\xed\x9f", "\xed\xa0", "\xf0\x90\x80", "\xf4\x8f\xbf", "\xf4\x90\x80", "\xe0\x9f", "\xf0\x8f\xbf", "\xc2", "\xdf"} {
			statuses(t, ahead+string([]byte{byte(i), 'a'}), 4)
		}
	}
}

func TestP261ByChance(t *testing.T) {
	d := dealt(261)
	for range 20000 {
		statuses(t, d.status(), 1+d.Intn(16))
	}
}
