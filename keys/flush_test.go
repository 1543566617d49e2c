package keys

import (
	"strings"
	"testing"
)

// Held and Flush behind each beginning, and that what comes then is read anew.
func TestK3EveryBeginning(t *testing.T) {
	for _, text := range beginnings() {
		begun(t).feed(text).look().flush()
		for _, probe := range probes {
			begun(t).feed(text).flush().feed(probe).flush()
			begun(t).feed("ab\x1b[A" + text).flush().bytes(probe).flush()
		}
		p := begun(t).feed(text)
		if p.held != text {
			t.Errorf("%q is not held by the chapter's rules, but %q", text, p.held)
		}
		p.flush().flush().flush()
	}
}

func TestK3Flush(t *testing.T) {
	for held, names := range map[string]string{
		"":                        "",
		"\x1b":                    "Escape ",
		"\x1b[":                   "M-[ ",
		"\x1b[1":                  "M-[ 1 ",
		"\x1b[1;5":                "M-[ 1 ; 5 ",
		"\x1b[? <0>":              "M-[ ? Space < 0 > ",
		"\x1b[ ":                  "M-[ Space ",
		"\x1b[!\"#$%&'()*+,-./:=": "M-[ ! \" # $ % & ' ( ) * + , - . / : = ",
		"\x1bO":                   "M-O ",
		"\xc3":                    "",
		"\xe0\xa0":                "",
		"\xf0\x90\x80":            "",
		"\x1b\xc3":                "",
		"\x1b\xe0\xa0":            "",
		"\x1b\xf4\x8f\xbf":        "",
	} {
		wantRead(t, held, "", held, names)
		wantRead(t, "a"+held, "a ", held, names)
	}
	long := strings.Repeat("7", 253)
	wantRead(t, "\x1b["+long, "", "\x1b["+long, "M-[ "+strings.Repeat("7 ", 253))
}

// Behind Flush nothing is known of what was held.
func TestK3NothingIsHeldBehindFlush(t *testing.T) {
	for _, held := range []string{"\x1b", "\x1b[", "\x1b[1;5", "\x1bO", "\xc3", "\x1b\xc3", "\xf0\x90\x80", "\x1b\xf0\x90\x80"} {
		for text, names := range map[string]string{"A": "A ", "[A": "[ A ", "~": "~ ", "\xa9x": "x ", "\x80x": "x ", "\x1b[A": "Up ", "\xc3\xa9": "\u00e9 ", "OA": "O A ", "5~": "5 ~ "} {
			d := New()
			d.Feed(held)
			d.Flush()
			if d.Held() != "" || len(d.Flush()) != 0 {
				t.Errorf("behind Flush of %q something is held", held)
			}
			if got := listOf(d.Feed(text)); got != names || d.Held() != "" {
				t.Errorf("behind Flush of %q, Feed(%q) tells %s, holds %q", held, text, got, d.Held())
			}
		}
	}
}

// Held and an empty Feed change nothing.
func TestK3HeldChangesNothing(t *testing.T) {
	for _, text := range beginnings() {
		p := begun(t)
		for i := range len(text) {
			p.feed("").look().feed(text[i : i+1]).look().feed("").look()
		}
		p.flush()
	}
}
