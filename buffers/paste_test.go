package buffers

import (
	"math/rand"
	"strings"
	"testing"
)

const (
	first = "\x1b[200~" // what stands ahead with bracket
	mark  = "\x1b[201~" // what stands behind, and is left out in the text
)

func wantPaste(t *testing.T, text, between string, bracket bool, want string) {
	t.Helper()
	if got := Paste(text, between, bracket); got != want {
		t.Errorf("Paste(%.60q, %.20q, %v) is %.80q, and not %.80q", text, between, bracket, got, want)
	}
}

func TestBU5Between(t *testing.T) {
	for _, c := range []struct{ text, between, want string }{
		{"", "", ""}, {"", "\r", ""}, {"abc", "\r", "abc"}, {"abc", "", "abc"},
		{"a\nb", "\r", "a\rb"}, {"a\nb", "", "ab"}, {"a\nb", ", ", "a, b"}, {"a\nb", "\n", "a\nb"}, {"a\nb", "\n\n", "a\n\nb"}, {"a\nb", "x\ny", "ax\nyb"},
		{"\n", "", ""}, {"\n", "\r", "\r"}, {"\n\n\n", "\r", "\r\r\r"}, {"\n\n", "ab\n", "ab\nab\n"}, {"\na\n\nb\n", "-", "-a--b-"},
		{"a\r\nb\r", "\r", "a\r\rb\r"}, {"a\x00\n\xff", "\x00\xff", "a\x00\x00\xff\xff"}, {"a\\nb", "-", "a\\nb"}, {"\u4e00\n\u4e8c", "\u4e09", "\u4e00\u4e09\u4e8c"},
		{"\u0a0a\n", "-", "\u0a0a-"}, {"a\nb", strings.Repeat("xy", 100), "a" + strings.Repeat("xy", 100) + "b"},
	} {
		wantPaste(t, c.text, c.between, false, c.want)
		wantPaste(t, c.text, c.between, true, first+c.want+mark)
	}
}

func TestBU5Long(t *testing.T) {
	wantPaste(t, strings.Repeat("\n", 65536), "0123456789", false, strings.Repeat("0123456789", 65536))
	wantPaste(t, strings.Repeat("\n", 65536), "", true, first+mark)
	wantPaste(t, strings.Repeat("a\n", 32768), "\r", true, first+strings.Repeat("a\r", 32768)+mark)
	wantPaste(t, strings.Repeat(mark, 10000), "\r", true, first+mark)
	wantPaste(t, strings.Repeat("x", 1<<20), "\r", false, strings.Repeat("x", 1<<20))
	wantPaste(t, "a\nb", strings.Repeat("x", 1<<20), false, "a"+strings.Repeat("x", 1<<20)+"b")
}

func TestBU5Marks(t *testing.T) {
	for _, c := range []struct{ text, between, want string }{
		{mark, "\r", ""}, {mark + mark, "\r", ""}, {mark + mark + mark, "", ""},
		{"a" + mark + "b", "\r", "ab"}, {"a" + mark + "b" + mark + "c", "\r", "abc"}, {mark + "a", "\r", "a"}, {"a" + mark, "\r", "a"},
		{"a\n" + mark + "\nb", "\r", "a\r\rb"}, {mark + "\n" + mark, "\r", "\r"}, {mark + "\n" + mark, "", ""},
		{first, "\r", first}, {first + "a" + mark, "\r", first + "a"}, {"\x1b[202~\x1b[20~\x1b[2010~\x1b[201", "\r", "\x1b[202~\x1b[20~\x1b[2010~\x1b[201"},
		{"\x1b\x1b[201~", "\r", "\x1b"}, {"[201~", "\r", "[201~"}, {"\x9b201~", "\r", "\x9b201~"}, {"\x1b[0201~", "\r", "\x1b[0201~"}, {"\x1b [201~", "\r", "\x1b [201~"},
	} {
		wantPaste(t, c.text, c.between, true, first+c.want+mark)
	}
}

// Without bracket a mark stays as it is, and nothing stands ahead or behind.
func TestBU5MarksWithoutBracket(t *testing.T) {
	wantPaste(t, mark, "\r", false, mark)
	wantPaste(t, "a"+mark+"\n"+mark+"b", "\r", false, "a"+mark+"\r"+mark+"b")
	wantPaste(t, first+"a\nb"+mark, "", false, first+"ab"+mark)
}

// Parts of a mark at the text's beginning and end stay; with the marks ahead and behind they make no other one.
func TestBU5PartsOfAMark(t *testing.T) {
	for n := 1; n < len(mark); n++ {
		for _, text := range []string{mark[:n], mark[n:], "a" + mark[:n], mark[n:] + "a", mark[:n] + "a" + mark[n:], mark[:n] + mark[:n]} {
			wantPaste(t, text, "\r", true, first+text+mark)
		}
		wantPaste(t, mark+mark[:n], "\r", true, first+mark[:n]+mark)
		wantPaste(t, mark[n:]+mark, "\r", true, first+mark[n:]+mark)
	}
}

// From left to right, once: what comes to be a mark only where another was left out stays.
func TestBU5Once(t *testing.T) {
	for n := 1; n < len(mark); n++ {
		wantPaste(t, mark[:n]+mark+mark[n:], "\r", true, first+mark+mark)
		wantPaste(t, mark[:n]+mark+mark+mark[n:], "\r", true, first+mark+mark)
		wantPaste(t, mark[:n]+mark[:n]+mark+mark[n:]+mark[n:], "\r", true, first+mark[:n]+mark+mark[n:]+mark)
		wantPaste(t, mark[:n]+mark+mark[n:]+mark, "\r", true, first+mark+mark)
		wantPaste(t, mark[:n]+mark+"\n"+mark[n:], "\r", true, first+mark[:n]+"\r"+mark[n:]+mark)
	}
}

// A byte 10 in a mark's midst: it is none then, whatever comes into its place.
func TestBU5AByte10InAMark(t *testing.T) {
	for n := 1; n < len(mark); n++ {
		text := mark[:n] + "\n" + mark[n:]
		wantPaste(t, text, "\r", true, first+mark[:n]+"\r"+mark[n:]+mark)
		wantPaste(t, text, "", true, first+mark+mark)
		wantPaste(t, text, mark, true, first+mark[:n]+mark+mark[n:]+mark)
		wantPaste(t, text+text, "", true, first+mark+mark+mark)
		wantPaste(t, mark[:n]+"\n", mark[n:], true, first+mark+mark)
		wantPaste(t, "\n"+mark[n:], mark[:n], true, first+mark+mark)
	}
}

// What comes into the place of a byte 10 is not looked at.
func TestBU5BetweenIsNotLookedAt(t *testing.T) {
	wantPaste(t, "a\nb", mark, true, first+"a"+mark+"b"+mark)
	wantPaste(t, "\n", mark+"\n"+mark, true, first+mark+"\n"+mark+mark)
	wantPaste(t, "a\nb", first, false, "a"+first+"b")
	wantPaste(t, mark+"\n", "\n"+mark, false, mark+"\n"+mark)
}

// All short texts of what means something to Paste.
func TestBU5ShortTexts(t *testing.T) {
	parts := []string{"a", "\n", "\x1b", "[201~", mark, "\x1b[2", "01~", "~"}
	betweens := []string{"", "\r", "\n\n", "\x1b", mark, "01~"}
	texts, last := []string{""}, []string{""}
	for range 4 {
		var next []string
		for _, text := range last {
			for _, part := range parts {
				next = append(next, text+part)
			}
		}
		texts, last = append(texts, next...), next
	}
	for _, text := range texts {
		for _, between := range betweens {
			for _, bracket := range []bool{false, true} {
				wantPaste(t, text, between, bracket, pasted(text, between, bracket))
			}
		}
		if t.Failed() {
			return
		}
	}
}

// Any bytes, by chance.
func TestBU5AnyBytes(t *testing.T) {
	r := rand.New(rand.NewSource(5))
	for range 3000 {
		text := make([]byte, r.Intn(200))
		for i := range text {
			text[i] = byte(r.Intn(256))
			if r.Intn(4) == 0 {
				text[i] = "\n\x1b[201~"[r.Intn(7)]
			}
		}
		for range r.Intn(4) {
			at := r.Intn(len(text) + 1)
			text = append(text[:at:at], append([]byte(mark)[r.Intn(2)*r.Intn(6):], text[at:]...)...)
		}
		between := string(text[:r.Intn(len(text)+1)%5])
		for _, bracket := range []bool{false, true} {
			wantPaste(t, string(text), between, bracket, pasted(string(text), between, bracket))
		}
		if t.Failed() {
			return
		}
	}
}
