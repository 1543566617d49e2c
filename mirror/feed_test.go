package mirror

import (
	"slices"
	"strings"
	"testing"

	"mullion/api"
)

func TestM2Rest(t *testing.T) {
	p := begun(t)
	for _, c := range []struct{ text, rest string }{
		{"", ""},
		{"%", "%"},
		{"mess", "%mess"},
		{"", "%mess"},
		{"age a", "%message a"},
		{"b\n", ""},
		{"", ""},
		{"%message c\n%mess", "%mess"},
		{"age d\n%message e\n%message \n%message f", "%message f"},
		{"\n", ""},
		{"%begin 0 1 1\n\n\n\nx", "x"},
		{"\n\n", ""},
		{"%end 0 1 1\n%", "%"},
	} {
		p.feed(c.text).rest(c.rest)
	}
	if got, want := p.m.Messages(), []string{"ab", "c", "d", "e", "", "f"}; !same(got, want) {
		t.Errorf("the messages are %q, and not %q", got, want)
	}
	p.replies(api.Reply{Number: 1, Flag: 1, Good: true, Body: []string{"", "", "", "x", ""}})
}

// A rest is any bytes, however many; nothing but the byte 10 ends a line.
func TestM2RestIsAnyBytes(t *testing.T) {
	for _, text := range []string{"\r", "a\rb\r", "\x00\xff\x0b", "%exit\r", "é", strings.Repeat("%", api.MaxLine), strings.Repeat("x", 3*api.MaxLine)} {
		p := begun(t).feed(text).rest(text)
		p.feed(text).rest(text + text)
		if n, broken := p.m.Broken(); broken {
			t.Errorf("%s breaks it ahead of its end: %d", short(text), n)
		}
		p.feed("\n").rest("")
	}
}

// A line of an answer has no greatest length.
func TestM2LongLines(t *testing.T) {
	for _, size := range []int{api.MaxLine - 1, api.MaxLine, api.MaxLine + 1, 2*api.MaxLine + 5, 1 << 20} {
		line := strings.Repeat("y", size)
		for _, cut := range []int{0, 1, api.MaxLine, size} {
			cut = min(cut, size)
			m := New()
			m.Feed("%begin 0 1 1\n" + line[:cut])
			if m.Rest() != line[:cut] {
				t.Fatalf("of a line of %d bytes the first %d are no rest", size, cut)
			}
			m.Feed(line[cut:] + "\n%end 0 1 1\n")
			if r := m.Replies(); len(r) != 1 || len(r[0].Body) != 1 || r[0].Body[0] != line {
				t.Fatalf("a line of %d bytes, cut behind %d, is not what was answered", size, cut)
			}
		}
	}
}

// A long line that comes byte by byte costs no more than its bytes: this would not end else.
func TestM2ByteByByte(t *testing.T) {
	m := New()
	m.Feed("%begin 0 1 1\n")
	const size = 1 << 21
	for range size {
		m.Feed("z")
	}
	m.Feed("\n%end 0 1 1\n")
	if r := m.Replies(); len(r) != 1 || len(r[0].Body) != 1 || r[0].Body[0] != strings.Repeat("z", size) {
		t.Error("the line is not what was fed")
	}
}

// An empty line is a line of an answer: in no block it breaks the mirror.
func TestM2EmptyLines(t *testing.T) {
	begun(t).breaks("")
	begun(t).follows("%message a").breaks("")
	begun(t).follows("%begin 0 1 1", "", "").follows("%end 0 1 1").breaks("")
	begun(t).follows("%exit").breaks("")
}

// What is broken takes no line any more, and has no rest; its questions go on.
func TestM2Broken(t *testing.T) {
	later := []string{
		"", "a", "\n", "\n\n", "%message later\n", "%begin 1 1 1\n", "x\n%end 1 1 1\n", "%exit\n", "%output %1 x\n", "%pane-close %1\n",
		"%session-changed $9 z\n", "%pane-add %9 0\n", "%window-add @9 z\n", "%subscription-changed w $1 @1 0 %1 : v\n", "%pause %1 99\nrest", "rest", "\n%mess",
	}
	ahead := slices.Concat(greeting(), []string{"%message m", "%output %1 ab", "%pause %1 12", "%subscription-changed w $1 @1 0 %1 : x"})
	for name, lines := range map[string][]string{
		"nothing": nil, "a greeting": ahead, "a block": slices.Concat(ahead, []string{"%begin 4 1 1", "one", "two"}), "an exit": slices.Concat(ahead, []string{"%exit detached"}),
	} {
		p := begun(t).follows(lines...)
		number := p.count() + 1
		p.breaks("%nothing")
		want := ask(p.m)
		for range 2 {
			for _, text := range later {
				p.feed(text).rest("")
				if got := ask(p.m); !same(got, want) {
					t.Fatalf("behind %s, broken, and then %q: %+v, and not %+v", name, text, got, want)
				}
			}
		}
		if n, broken := p.m.Broken(); n != number || !broken {
			t.Errorf("behind %s: broken is %d, %v, and not %d", name, n, broken, number)
		}
	}
}

// What stands behind the line that breaks it, in the same bytes, is let go; what stands ahead of it is not.
func TestM2BrokenInTheMidst(t *testing.T) {
	p := begun(t).feed("%message a\n%message b\nx\n%message c\n%message d").rest("")
	if got := p.m.Messages(); !same(got, []string{"a", "b"}) {
		t.Errorf("the messages are %q", got)
	}
	if n, broken := p.m.Broken(); n != 3 || !broken {
		t.Errorf("broken is %d, %v", n, broken)
	}
	p = begun(t).feed("%message a\nx").rest("x")
	p.feed("y\nz").rest("")
	if n, _ := p.m.Broken(); n != 2 {
		t.Errorf("broken is %d", n)
	}
}

// The number counts all lines from the first one on: those of blocks, and the guards.
func TestM2TheNumberOfTheLine(t *testing.T) {
	for ahead := range 60 {
		p := begun(t).tell("%begin 0 1 1")
		for range ahead {
			p.m.Feed("x\n")
			p.b.all += "x\n"
		}
		p.breaks("%message")
		if n, broken := p.m.Broken(); n != ahead+2 || !broken {
			t.Errorf("behind %d lines: %d, %v", ahead+1, n, broken)
		}
	}
}
