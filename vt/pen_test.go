package vt

import (
	"fmt"
	"math/rand"
	"strings"
	"testing"

	"mullion/api"
)

// penBehindText is the Attr of a letter that is written behind a sequence.
func penBehindText(t *testing.T, text string) api.Attr {
	t.Helper()
	s := made(t, 3, 1, 0)
	s.Feed(text + "x")
	return s.Picture().Places[0].Attr
}

// Each number alone, from nothing and from all marks and colours.
func TestV2PenNumbers(t *testing.T) {
	marks := []int{0, 1, 2, 4, 8, 16, 0, 32, 64, 128}
	for n := -1; n < 300; n++ {
		bare, full := api.Attr{}, api.Attr{Fore: 77, Back: 88, Marks: 255}
		switch {
		case n <= 0:
			full = api.Attr{}
		case n < 10:
			bare.Marks = marks[n]
		case n == 21:
			bare.Marks = api.MarkUnder
		case n == 22:
			full.Marks = 255 - 1 - 2
		case n > 22 && n < 30:
			full.Marks = 255 - marks[n-20]
		case n >= 30 && n < 38:
			bare.Fore, full.Fore = n-29, n-29
		case n == 39:
			full.Fore = 0
		case n >= 40 && n < 48:
			bare.Back, full.Back = n-39, n-39
		case n == 49:
			full.Back = 0
		case n >= 90 && n < 98:
			bare.Fore, full.Fore = n-81, n-81
		case n >= 100 && n < 108:
			bare.Back, full.Back = n-91, n-91
		}
		number := strings.TrimPrefix(fmt.Sprint(n), "-1")
		if got := penBehindText(t, "\x1b["+number+"m"); got != bare {
			t.Errorf("%s: %v, not %v", number, got, bare)
		}
		if got := penBehindText(t, "\x1b[1;2;3;4;5;7;8;9;38;5;76;48;5;87m\x1b["+number+"m"); got != full {
			t.Errorf("%s behind all: %v, not %v", number, got, full)
		}
	}
}

// 38 and 48 with what stands behind them.
func TestV2PenColours(t *testing.T) {
	for text, want := range map[string]api.Attr{
		"38;5;0": {Fore: 1}, "38;5;255": {Fore: 256}, "38;5;256": {}, "38;5;9999": {}, "38;5;256;1": {Marks: 1}, "38;5": {}, "38": {}, "38;5;": {Fore: 1}, "38;5;;1": {Fore: 1, Marks: 1}, "38;;1;1": {}, "38;1;1;1": {}, "38;0": {}, "1;38": {Marks: 1}, "38;5;7;1": {Fore: 8, Marks: 1}, "38:5:7": {Fore: 8},
		"38;2;0;0;0": {Fore: 257}, "38;2;255;255;255": {Fore: 257 + 16777215}, "38;2;1;2;3;1": {Fore: 66308, Marks: 1}, "38;2;256;0;0;1": {Marks: 1}, "38;2;0;256;0;1": {Marks: 1}, "38;2;0;0;256;1": {Marks: 1}, "38;2;1;2": {}, "38;2;1": {}, "38;2": {}, "38;2;;;": {Fore: 257}, "38;2;1;;;1": {Fore: 257 + 65536, Marks: 1}, "38;2;1;1;1": {Fore: 257 + 65536 + 257},
		"48;5;0": {Back: 1}, "48;5;255": {Back: 256}, "48;5;256;1": {Marks: 1}, "48;2;0;0;1": {Back: 258}, "48;2;0;1;0": {Back: 257 + 256}, "48;2;256;256;256;4": {Marks: 8}, "48;3;1": {}, "48;5;1;38;5;2;1": {Fore: 3, Back: 2, Marks: 1}, "31;38;5;999;42": {Fore: 2, Back: 3}, "31;38;7;42": {Fore: 2}, "38;48;5;1": {}, "38;5;48;5": {Fore: 49, Marks: 16},
		"31;42;0;1": {Marks: 1}, "31;;1": {Marks: 1}, ";31": {Fore: 2}, "31;": {}, "1;22": {}, "1;2;22;2": {Marks: 2}, "4;21;24": {}, "21": {Marks: 8}, "58;5;1": {Marks: 17}, "4:3": {Marks: 12}, "1;1;1;1;1;1;1;1;1;1;1;1;1;1;1;4": {Marks: 9}, "1;1;1;1;1;1;1;1;1;1;1;1;1;1;1;1;4": {},
	} {
		if got := penBehindText(t, "\x1b["+text+"m"); got != want {
			t.Errorf("%s: %v, not %v", text, got, want)
		}
	}
	if got := penBehindText(t, "\x1b[31;42;1m\x1b[m"); got != (api.Attr{}) {
		t.Errorf("no number at all: %v", got)
	}
	for _, text := range []string{"\x1b[?1m", "\x1b[>4m", "\x1b[1 m", "\x1b[1!m"} {
		if got := penBehindText(t, text); got != (api.Attr{}) {
			t.Errorf("%q: %v", text, got)
		}
	}
}

// Lists of numbers by chance.
func TestV2PenByChance(t *testing.T) {
	r := rand.New(rand.NewSource(5))
	some := []string{"", "0", "1", "2", "3", "4", "5", "7", "9", "21", "22", "24", "29", "31", "37", "38", "38", "38", "39", "42", "48", "48", "48", "49", "92", "105", "128", "255", "256", "9999"}
	for range 20000 {
		a := begun(t, 2, 1, 0)
		for range 1 + r.Intn(3) {
			text := ""
			for i := range 1 + r.Intn(9) {
				text += strings.Repeat([]string{";", ":"}[r.Intn(2)], min(i, 1)) + some[r.Intn(len(some))]
			}
			a.feed("\x1b[" + text + "m\rx")
		}
		if t.Failed() {
			return
		}
	}
}
