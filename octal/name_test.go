package octal

import (
	"strings"
	"testing"

	"mullion/api"
)

const (
	barredFirst    = " !$%+-=@^{"
	barredAnywhere = ".:"
)

func wantName(t *testing.T, s string, name, word bool) {
	t.Helper()
	if got := IsName(s); got != name {
		t.Errorf("IsName(%q) = %v", s, got)
	}
	if got := IsWord(s); got != word {
		t.Errorf("IsWord(%q) = %v", s, got)
	}
}

func oneByte(b int) string { return string([]byte{byte(b)}) }

func TestO6NamesAndWords(t *testing.T) {
	for _, s := range []string{"x", "work", "sh", "a-b", "a+b=c", "x!", "user@host", "50%", "a$", "a^", "a{b}", "#", "~", "0", "\"q\"", `\`} {
		wantName(t, s, true, true)
	}
	for _, s := range []string{"work 2", "a b c", "a  b", "x !", "a  $b"} {
		wantName(t, s, true, false)
	}
	for _, s := range []string{"", " ", "  ", " x", "x ", " x ", "a:b", "a.b", ":", ".", "-x", "a\n", "\tb", "caf\xc3\xa9"} {
		wantName(t, s, false, false)
	}
}

func TestO6Lengths(t *testing.T) {
	for n := range api.MaxName + 1 {
		wantName(t, strings.Repeat("x", n), n > 0, n > 0)
	}
	longest := strings.Repeat("ab", api.MaxName/2-1)
	wantName(t, longest+"yz", true, true)
	wantName(t, longest+"yz!", false, false)
	wantName(t, longest[1:]+" yz", true, false)
	wantName(t, longest+" yz", false, false)
	wantName(t, strings.Repeat("x", 10000), false, false)
}

func TestO6EachByteAtEachPlace(t *testing.T) {
	for b := range 256 {
		inside := b >= 32 && b <= 126 && !strings.Contains(barredAnywhere, oneByte(b))
		first := inside && !strings.Contains(barredFirst, oneByte(b))
		notBlank := b != 32
		wantName(t, oneByte(b), first, first)
		wantName(t, oneByte(b)+"x", first, first)
		wantName(t, "x"+oneByte(b)+"x", inside, inside && notBlank)
		wantName(t, "x"+oneByte(b), inside && notBlank, inside && notBlank)
	}
}
