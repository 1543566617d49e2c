package client

import (
	"fmt"
	"math"
	"slices"
	"strings"
	"testing"

	"mullion/api"
)

func TestC1Limits(t *testing.T) {
	for _, limit := range []int{math.MinInt, -65536, -1, 65537, api.MaxLimit + api.Spare, math.MaxInt} {
		if c, err := New(limit); c != nil || err != api.ErrArg {
			t.Errorf("New(%d): a client: %v, error %d", limit, c != nil, err)
		}
	}
	for _, limit := range []int{0, 1, 20, 1000, 65535, api.MaxLimit} {
		c, err := New(limit)
		if c == nil || err != api.OK {
			t.Fatalf("New(%d): a client: %v, error %d", limit, c != nil, err)
		}
		if got, want := c.Peer(3), (api.Peer{Client: 3, Limit: limit}); !samePeer(got, want) {
			t.Errorf("New(%d): Peer(3) = %+v", limit, got)
		}
		if c.Session() != 0 || c.Closed() || len(c.Watches()) != 0 || c.Drain(math.MaxInt) != "" {
			t.Errorf("New(%d): session %d, closed %v, watches %v", limit, c.Session(), c.Closed(), c.Watches())
		}
	}
}

func TestC2Greeting(t *testing.T) {
	p := paired(t, 100)
	p.hello(0, api.Event{Kind: api.EvSessionAdd, Session: 1, Name: "a"})
	p.wantDrained("%begin 0 0 0", "%end 0 0 0", "%session-add $1 a")
	p = paired(t, 100)
	p.hello(7)
	p.wantDrained("%begin 7 0 0", "%end 7 0 0")
	p = paired(t, 0)
	p.hello(api.MaxNumber,
		api.Event{Kind: api.EvPaneAdd, Pane: 3, Offset: 12},
		api.Event{Kind: api.EvPaneAdd, Pane: 0},
		api.Event{Kind: api.EvBegin, Flag: 1},
		api.Event{Kind: api.EvExit},
		api.Event{Kind: api.EvWindowAdd, Window: 2, Name: "sh"},
		api.Event{Kind: api.EvSession, Session: 1, Name: "a b"})
	p.wantDrained("%begin 4611686018427387904 0 0", "%end 4611686018427387904 0 0",
		"%pane-add %3 12", "%window-add @2 sh", "%session-changed $1 a b")
}

func TestC2CountStays(t *testing.T) {
	p := paired(t, 100)
	p.hello(1)
	p.hello(2)
	if count := p.c.Peer(1).Count; count != 0 {
		t.Errorf("behind two greetings the count is %d", count)
	}
	p.block(3, true)
	p.hello(4)
	p.block(5, false)
	p.wantDrained("%begin 1 0 0", "%end 1 0 0", "%begin 2 0 0", "%end 2 0 0", "%begin 3 1 1", "%end 3 1 1",
		"%begin 4 0 0", "%end 4 0 0", "%begin 5 2 1", "%error 5 2 1")
}

// A greeting takes 24 bytes.
func TestC2Room(t *testing.T) {
	for _, left := range []int{23, 24, 25} {
		p := filled(t, 50, 50+api.Spare-left)
		ahead := p.m.size()
		p.hello(0)
		all := p.drain(math.MaxInt)
		want := "%begin 0 0 0\n%end 0 0 0\n"
		if left < 24 {
			want = behindLine + "\n"
		}
		if all[ahead:] != want || p.c.Closed() != (left < 24) {
			t.Errorf("room for %d bytes: %q, closed %v", left, all[ahead:], p.c.Closed())
		}
	}
	p := filled(t, 50, 50+api.Spare-23)
	ahead := p.m.size()
	p.hello(0, api.Event{Kind: api.EvPaneClose, Pane: 1})
	if all := p.drain(math.MaxInt); all[ahead:] != behindLine+"\n" {
		t.Errorf("an event was told behind the last line: %q", all[ahead:])
	}
	p = filled(t, 50, 50+api.Spare-24)
	ahead = p.m.size()
	p.hello(0, api.Event{Kind: api.EvPaneClose, Pane: 1}, api.Event{Kind: api.EvPaneClose, Pane: 2})
	if all := p.drain(math.MaxInt); all[ahead:] != "%begin 0 0 0\n%end 0 0 0\n"+behindLine+"\n" {
		t.Errorf("a greeting whose events have no room: %q", all[ahead:])
	}
}

func TestC2TickWithoutLine(t *testing.T) {
	for _, tick := range []int{math.MinInt, -1, api.MaxNumber + 1, math.MaxInt} {
		p := paired(t, 1000)
		p.hello(tick, api.Event{Kind: api.EvSessionAdd, Session: 1, Name: "a"})
		p.wantDrained(behindLine)
		if !p.c.Closed() {
			t.Errorf("Hello(%d): the client is open", tick)
		}
	}
}

func TestC3Feed(t *testing.T) {
	p := paired(t, 0)
	longest := strings.Repeat("x", api.MaxLine)
	chunks := []string{"", "new", " -s w", "\n", "a\nb\n\nc", "\n\n", longest, "\n", longest, "y\nz\n", longest + "y" + longest, longest, "\nlast\r\n", "\x00\xff%\n", "rest"}
	for _, chunk := range chunks {
		p.feed(chunk)
	}
	got := p.feed(" of it\n" + longest + "\n" + longest + "z\n")
	want := []api.Line{{Text: "rest of it"}, {Text: longest}, {Long: true}}
	if !slices.Equal(got, want) {
		t.Errorf("%d lines: %.100v", len(got), got)
	}
}

// How the bytes are cut makes no difference to the lines.
func TestC3Cuts(t *testing.T) {
	text := "a\n\nbc\n" + strings.Repeat("x", 8192) + "\n" + strings.Repeat("y", 8193) + "\nd\ne"
	whole := made(t, 0).Feed(text)
	if len(whole) != 6 {
		t.Fatalf("%d lines", len(whole))
	}
	for _, size := range []int{1, 2, 5, 100, 4096, 8192, 8193} {
		p := paired(t, 0)
		var got []api.Line
		for chunk := range slices.Chunk([]byte(text), size) {
			got = append(got, p.c.Feed(string(chunk))...)
		}
		if !slices.Equal(got, whole) {
			t.Errorf("cut by %d: %d lines", size, len(got))
		}
	}
}

func TestC3Closed(t *testing.T) {
	p := paired(t, 100)
	if got := p.feed("one\ntw"); len(got) != 1 {
		t.Errorf("Feed: %v", got)
	}
	p.exit("bye")
	for _, chunk := range []string{"", "o\n", "a\nb\n", "\n", strings.Repeat("z", 9000) + "\n"} {
		if got := p.feed(chunk); len(got) != 0 {
			t.Errorf("a closed client: Feed(%.20q) = %v", chunk, got)
		}
	}
	p.wantDrained("%exit bye")
	if got := p.feed("o\n"); len(got) != 0 {
		t.Errorf("a closed client whose queue is empty: %v", got)
	}
}

// What a client sends is no matter of what it is told.
func TestC3ChangesNothingElse(t *testing.T) {
	p := paired(t, 10)
	p.block(1, true)
	p.feed("a\nb\nc")
	p.wantDrained("%begin 1 1 1", "%end 1 1 1")
}

func TestC4Bodies(t *testing.T) {
	p := paired(t, 1000)
	p.block(3, true, "%x")
	p.wantDrained("%begin 3 1 1", `\045x`, "%end 3 1 1")
	p.block(3, true)
	p.wantDrained("%begin 3 2 1", "%end 3 2 1")
	p.block(4, false)
	p.wantDrained("%begin 4 3 1", "%error 4 3 1")
	p.block(0, false, "not found: %9")
	p.wantDrained("%begin 0 4 1", "not found: %9", "%error 0 4 1")
	p.block(5, true, "", "a b", "%end 5 5 1", "a\nb", `c\d`, "\x00\x1f\x20\x7f\xff", "%%", "a%", "")
	p.wantDrained("%begin 5 5 1", "", "a b", `\045end 5 5 1`, `a\012b`, `c\134d`, `\000\037`+" \x7f\xff", `\045%`, "a%", "", "%end 5 5 1")
	p.block(api.MaxNumber, true, "\n\n")
	p.wantDrained("%begin 4611686018427387904 6 1", `\012\012`, "%end 4611686018427387904 6 1")
}

// A block of the 13 and the 11 bytes of its guards and one line of a body.
func TestC4RoomAsAWhole(t *testing.T) {
	for _, limit := range []int{0, 20, api.MaxLimit} {
		for body := range 12 {
			for left := 20; left < 40; left++ {
				p := filled(t, limit, limit+api.Spare-left)
				ahead := p.m.size()
				p.block(0, true, strings.Repeat("b", body))
				all := p.drain(math.MaxInt)
				want := fmt.Sprintf("%%begin 0 1 1\n%s\n%%end 0 1 1\n", strings.Repeat("b", body))
				if left < len(want) {
					want = behindLine + "\n"
				}
				if all[ahead:] != want || p.c.Closed() != (want[1] == 'e') {
					t.Fatalf("a body of %d bytes, room for %d: %q", body, left, all[ahead:])
				}
				if p.c.Peer(1).Count != 1 {
					t.Fatalf("the count is %d", p.c.Peer(1).Count)
				}
			}
		}
	}
}

// Each line would have room, all of them together have none.
func TestC4ManyLines(t *testing.T) {
	p := paired(t, 0)
	body := make([]string, api.Spare-24)
	p.block(0, true, body...)
	if p.c.Closed() || p.c.Peer(1).Size != api.Spare {
		t.Errorf("a block that just has room: closed %v, size %d", p.c.Closed(), p.c.Peer(1).Size)
	}
	p = paired(t, 0)
	p.block(0, true, make([]string, api.Spare-23)...)
	p.wantDrained(behindLine)
	if p.c.Peer(1).Count != 1 {
		t.Error("a block without room does not count")
	}
}

// What counts is how long the line is, not the text.
func TestC4LinesTooLong(t *testing.T) {
	for _, text := range []string{strings.Repeat("x", 8192), strings.Repeat("\n", 2048), "%" + strings.Repeat("x", 8188), strings.Repeat(`\`, 2047) + "abcd"} {
		p := paired(t, api.MaxLimit)
		p.block(1, true, text)
		if p.c.Closed() {
			t.Errorf("a text of %d bytes has a line", len(text))
		}
		p.drain(math.MaxInt)
		p.block(2, false, "a", text+"x", "b")
		p.wantDrained(behindLine)
		if peer := p.c.Peer(1); !peer.Closed || peer.Count != 2 {
			t.Errorf("a text of %d bytes has no line: %+v", len(text)+1, peer)
		}
	}
}

func TestC4TickWithoutLine(t *testing.T) {
	for _, tick := range []int{math.MinInt, -1, api.MaxNumber + 1, math.MaxInt} {
		for _, good := range []bool{true, false} {
			p := paired(t, 1000)
			p.block(1, true)
			p.block(tick, good, "a")
			p.wantDrained("%begin 1 1 1", "%end 1 1 1", behindLine)
			if peer := p.c.Peer(1); !peer.Closed || peer.Count != 2 {
				t.Errorf("Block(%d): %+v", tick, peer)
			}
		}
	}
}

func TestC4Closed(t *testing.T) {
	p := paired(t, 1000)
	p.block(1, true)
	p.exit("")
	p.block(2, true, "a")
	p.block(-1, false)
	p.block(3, true, strings.Repeat("x", 9000))
	p.wantDrained("%begin 1 1 1", "%end 1 1 1", "%exit")
	if count := p.c.Peer(1).Count; count != 1 {
		t.Errorf("the blocks of a closed client count: %d", count)
	}
}
