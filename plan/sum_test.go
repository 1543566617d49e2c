package plan

import (
	"math/rand"
	"strings"
	"testing"
)

func TestPL1Examples(t *testing.T) {
	for s, want := range map[string]int{
		"":                 0,
		"a":                97,
		"ab":               32768 + 48 + 98,
		"80x24,0,0,1":      0xb25e,
		"\x00":             0,
		"\xff":             255,
		"\x01\x00":         32768, // 1 is odd: nothing is left of its half
		"\x02\x00":         1,
		"\x01\x00\x00":     16384,
		"\x01\x01\x01":     32769/2 + 32768 + 1,
		"\xff\xff\xff":     33150/2 + 255,
		"ba":               49 + 97,
		"\x00\x00a":        97,
		"a\x00\x00":        48/2 + 32768/2,
		"\xfe\x01\n\xffx,": wantSum("\xfe\x01\n\xffx,"),
	} {
		if got := Sum(s); got != want {
			t.Errorf("Sum(%q) = %d, not %d", s, got, want)
		}
	}
}

func TestPL1EveryByteAndEveryPair(t *testing.T) {
	for a := range 256 {
		if got := Sum(string([]byte{byte(a)})); got != a {
			t.Fatalf("Sum of the byte %d = %d", a, got)
		}
		for b := range 256 {
			want := a/2 + b
			if a%2 == 1 {
				want += 32768
			}
			if got := Sum(string([]byte{byte(a), byte(b)})); got != want {
				t.Fatalf("Sum of the bytes %d and %d = %d, not %d", a, b, got, want)
			}
		}
	}
}

// Nine bytes bring the sum to 65535, by hand; any byte behind them brings it above that.
func TestPL1WhatIsAboveIsLetGo(t *testing.T) {
	// 255 eight turns ago stands as its eight ones at the top: 65280.
	top := "\xff" + strings.Repeat("\x00", 8)
	if got := Sum(top); got != 65280 {
		t.Fatalf("Sum = %d, not 65280", got)
	}
	if got := Sum(top[:8] + "\xff"); got != 65535 {
		t.Errorf("Sum = %d, not 65535", got)
	}
	for b := range 256 {
		// 65535 halved is 32767, and 32768 more is 65535 again.
		want := (65535 + b) % 65536
		if got := Sum(top[:8] + "\xff" + string([]byte{byte(b)})); got != want {
			t.Errorf("Sum of 65535's text and the byte %d = %d, not %d", b, got, want)
		}
	}
}

func TestPL1LongTexts(t *testing.T) {
	r := rand.New(rand.NewSource(1))
	for _, n := range []int{3, 4, 8, 15, 16, 17, 31, 32, 33, 255, 256, 257, 1000, 2048, 2049, 70000} {
		for range 5 {
			text := make([]byte, n)
			for i := range text {
				text[i] = byte(128 + r.Intn(128))
			}
			if got, want := Sum(string(text)), wantSum(string(text)); got != want {
				t.Fatalf("Sum of %d bytes = %d, not %d", n, got, want)
			}
		}
	}
	for _, b := range []string{"\xff", "\xfe", "\x01", "\x00", "9"} {
		text := strings.Repeat(b, 70000)
		if got, want := Sum(text), wantSum(text); got != want || got < 0 || got > 65535 {
			t.Errorf("Sum of 70000 times %q = %d, not %d", b, got, want)
		}
	}
	if got := Sum(strings.Repeat("\x00", 1<<22)); got != 0 {
		t.Errorf("Sum of many zeros = %d", got)
	}
}
