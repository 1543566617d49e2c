package vt

import (
	"strings"
	"testing"
)

// Titles: what begins, holds and ends them.
func TestV2Titles(t *testing.T) {
	long := strings.Repeat("0123456789", 20)
	for text, want := range map[string]string{
		"\x1b]2;hi\a": "hi", "\x1b]0;hi\a": "hi", "\x1b]1;hi\a": "old", "\x1b]3;hi\a": "old", "\x1b]2hi\a": "old", "\x1b]2\a": "old", "\x1b]\a": "old", "\x1b];hi\a": "old", "\x1b]02;hi\a": "old", "\x1b]2:hi\a": "old", "\x1b] 2;hi\a": "old", "\x1b]22;hi\a": "old",
		"\x1b]2;\a": "", "\x1b]0;\a": "", "\x1b]2;hi\x1b\\": "hi", "\x1b]2;hi\x1b": "hi", "\x1b]2;hi\x1b[2C": "hi", "\x1b]2;hi": "old", "\x1b]2;hi\x18": "old", "\x1b]2;hi\x1a": "old", "\x1b]2;hi\x18\a": "old", "\x1b]2;a;b\a": "a;b", "\x1b]2;h\ni\r\x00\x7f!\a": "hi!", "\x1b]\x002\n;hi\a": "hi",
		"\x1b]2;\xc3\xa9\xff\x80\a": "\xc3\xa9\xff\x80", "\x1b]2;\u4e00\a": "\u4e00", "\x1b]2; a \a": " a ", "\x1b]2;a\a\x1b]2;b\a": "b", "\x1b]2;a\x1b]2;b\a": "b", "\x1b]2;a\x1b]9;b\a": "a", "\x1b\n]2;hi\a": "hi", "\x1b#]2;hi\a": "old",
		"\x1b]2;" + long[:127] + "\a": long[:127], "\x1b]2;" + long[:128] + "\a": long[:128], "\x1b]2;" + long[:129] + "\a": long[:128], "\x1b]0;" + long + "\x1b\\": long[:128], "\x1b]2;" + strings.Repeat("x", 100000) + "\a": strings.Repeat("x", 128), "\x1b]2;" + long[:127] + "\n\u4e00\a": long[:127] + "\xe4",
		"\x1bP2;hi\a\x1b\\": "old", "\x1bX2;hi\x1b\\": "old", "\x1b^2;hi\x1b\\": "old", "\x1b_2;hi\x1b\\": "old", "\x1bP]2;hi\a\x1b\\": "old", "\x1b[2;hi\a": "old",
		"\x1b[!p": "old", "\x1b[?1049h": "old", "\x1bc": "",
	} {
		for _, cut := range []int{0, len(text) / 2, len(text)} {
			s := made(t, 5, 3, 0)
			s.Feed("\x1b]2;old\a" + text[:cut])
			s.Feed(text[cut:])
			if got := s.Picture().Title; got != want {
				t.Errorf("%.40q: the title is %q, not %q", text, got, want)
			}
		}
	}
	begun(t, 5, 3, 0).bytewise("\x1b]2;a\x1b\\b\x1b]0;" + long + "\ac\x1bPd\ae\x18f\x1b_g\x1b\\h\x1b^\xe4\xb8\x80\x1ai").probed()
}

// Texts for nobody: nothing in them means anything.
func TestV2TextsForNobody(t *testing.T) {
	for _, begin := range []string{"P", "X", "^", "_"} {
		wantSeen(t, 5, 2, 0,
			seen{"a\x1b" + begin + "bc\x1b\\d", "ad", 2, 0}, seen{"a\x1b" + begin + "bc\x18d", "ad", 2, 0}, seen{"a\x1b" + begin + "bc\x1ad", "ad", 2, 0}, seen{"a\x1b" + begin + "b\ac\n\r\td\x7f\xe4\xb8\x80\xff", "a", 1, 0}, seen{"a\x1b" + begin + "b\x1b[2Cd", "a  d", 4, 0}, seen{"a\x1b" + begin + strings.Repeat("x", 5000) + "\x1b\\d", "ad", 2, 0},
		)
	}
	wantSeen(t, 5, 2, 0, seen{"a\x1b]2;b\x1b\\c", "ac", 2, 0}, seen{"a\x1b]2;b\nc\ad", "ad", 2, 0}, seen{"a\x1b]2;b\x18c", "ac", 2, 0}, seen{"a\x1b]2;b\xe4\xb8\x18c", "ac", 2, 0})
}

// What is sent back, taken out, and its bound.
func TestV3Answer(t *testing.T) {
	for text, want := range map[string]string{
		"": "", "\x1b[5n": "\x1b[0n", "\x1b[6n": "\x1b[1;1R", "ab\x1b[6n": "\x1b[1;3R", "\x1b[3;4H\x1b[6n": "\x1b[3;4R", "abcde\x1b[6n": "\x1b[1;5R", "\x1b[c": "\x1b[?1;2c", "\x1b[0c": "\x1b[?1;2c", "\x1b[0;7c": "\x1b[?1;2c", "\x1b[1c": "", "\x1b[>c": "", "\x1b[?c": "", "\x1b[n": "", "\x1b[0n": "", "\x1b[1n\x1b[7n": "", "\x1b[?6n": "", "\x1b[?5n": "", "\x1b[5;6n": "\x1b[0n", "\x1b[;5n": "", "\x1b[5 n": "",
		"\x1b[2;3r\x1b[2;2H\x1b[6n": "\x1b[2;2R", "\x1b[2;3r\x1b[?6h\x1b[6n": "\x1b[1;1R", "\x1b[2;3r\x1b[?6h\x1b[2;2H\x1b[6n": "\x1b[2;2R", "\x1b[H\x1b7\x1b[2;3r\x1b[?6h\x1b7\x1b[A\x1b[6n": "\x1b[1;1R", "\x1b[?6h\x1b7\x1b[3;4r\x1b8\x1b[6n": "\x1b[-1;1R", "\x1b[?6h\x1b7\x1b[2;4r\x1b8\x1b[6n": "\x1b[0;1R",
		"\x1b[5n\x1b[c\x1b[6n": "\x1b[0n\x1b[?1;2c\x1b[1;1R", "\x1b[5n\x1bc": "\x1b[0n", "\x1bZ": "", "\x05": "",
	} {
		s := made(t, 5, 4, 0)
		s.Feed(text)
		if got := s.Answer(); got != want || s.Answer() != "" {
			t.Errorf("%q: Answer is %q, not %q", text, got, want)
		}
		s.Feed("\x1b[5n")
		if got := s.Answer(); got != "\x1b[0n" {
			t.Errorf("%q: the next Answer is %q", text, got)
		}
	}
	s := made(t, 5, 4, 0)
	s.Feed(strings.Repeat("\x1b[5n", 1024))
	if got := len(s.Answer()); got != 4096 {
		t.Errorf("1024 times four bytes are %d", got)
	}
	s.Feed(strings.Repeat("\x1b[5n", 1025))
	if got := len(s.Answer()); got != 4096 {
		t.Errorf("one more: %d bytes", got)
	}
	s.Feed(strings.Repeat("\x1b[5n", 1023) + "\x1b[6n\x1b[5n\x1b[5n")
	if got := s.Answer(); got != strings.Repeat("\x1b[0n", 1024) {
		t.Errorf("what is too long is not sent, what is shorter is: %d bytes", len(got))
	}
	s.Feed(strings.Repeat("\x1b[c", 5000))
	if got := s.Answer(); got != strings.Repeat("\x1b[?1;2c", 585) {
		t.Errorf("seven bytes each: %d", len(got))
	}
	begun(t, 5, 4, 0).feed(strings.Repeat("\x1b[c\x1b[6n\x1b[5n", 400)).answer().feed("\x1b[5n").answer().answer()
}
