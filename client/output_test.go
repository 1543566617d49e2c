package client

import (
	"fmt"
	"math"
	"slices"
	"strings"
	"testing"

	"mullion/api"
)

func noIds() []int {
	return []int{math.MinInt, -api.MaxNumber, -1, 0, api.MaxNumber + 1, math.MaxInt}
}

func noOffsets() []int { return []int{math.MinInt, -1, api.MaxNumber + 1, math.MaxInt} }

func TestC6Output(t *testing.T) {
	p := paired(t, 20)
	p.output(1, 5, 0, "hello")
	p.output(1, 6, 5, "x")
	p.output(1, 7, 6, "y")
	p.goOn(1, 7)
	p.wantDrained("%output %1 hello", "%pause %1 5", "%continue %1 7")
	p.output(1, 8, 7, "z")
	p.output(2, 8, 0, "")
	p.output(api.MaxNumber, 9, 0, "")
	p.wantDrained("%output %1 z")
	p = paired(t, 1000)
	p.output(api.MaxNumber, api.MaxNumber+5, 0, "a\n%\\\xff")
	p.wantDrained(`%output %4611686018427387904 a\012%\134` + "\xff")
}

// Empty data is nothing, also where no data would fit.
func TestC6EmptyData(t *testing.T) {
	p := paired(t, 0)
	p.output(1, 0, 0, "")
	p.output(1, -1, 0, "")
	p.output(1, 0, -1, "")
	p.wantDrained()
	if peer := p.c.Peer(1); len(peer.Paused) != 0 || peer.Closed {
		t.Errorf("behind empty data: %+v", peer)
	}
}

func TestC6Pieces(t *testing.T) {
	for _, size := range []int{1, 255, 256, 257, 511, 512, 513, 700, 2560, 16384} {
		p := paired(t, api.MaxLimit)
		data := strings.Repeat("0123456789abcdefghij%", size/21+1)[:size]
		p.output(4, 1, 0, data)
		var lines []string
		for rest := data; rest != ""; {
			n := min(256, len(rest))
			lines = append(lines, "%output %4 "+rest[:n])
			rest = rest[n:]
		}
		p.wantDrained(lines...)
		if want := (size + 255) / 256; len(lines) != want {
			t.Errorf("%d bytes in %d lines", size, len(lines))
		}
	}
	p := paired(t, api.MaxLimit)
	p.output(4, 1, 0, strings.Repeat("\x00", 257))
	p.wantDrained("%output %4 "+strings.Repeat(`\000`, 256), `%output %4 \000`)
}

// All lines of a call have room, or none is told and the pane pauses where these bytes begin.
func TestC6Room(t *testing.T) {
	data := strings.Repeat("d", 300)
	lines := "%output %7 " + data[:256] + "\n%output %7 " + data[256:] + "\n"
	for _, waits := range []int{0, 10, 400} {
		for left := len(lines) - 3; left < len(lines)+3; left++ {
			p := filled(t, waits+left, waits)
			p.output(7, 3, 41, data)
			want := lines
			if left < len(lines) {
				want = "%pause %7 41\n"
			}
			if all := p.drain(math.MaxInt); all[waits:] != want {
				t.Errorf("room for %d of %d bytes: %q", left, len(lines), all[waits:])
			}
			if paused := len(p.c.Peer(1).Paused) == 1; paused != (left < len(lines)) {
				t.Errorf("room for %d of %d bytes: paused %v", left, len(lines), paused)
			}
		}
	}
}

// A queue that is above its limit takes no output; the pause is told all the same.
func TestC6AboveTheLimit(t *testing.T) {
	p := filled(t, 50, 500)
	p.output(1, 0, 9, "a")
	p.output(2, 0, 8, "a")
	p.output(1, 0, 10, "b")
	if all := p.drain(math.MaxInt); all[500:] != "%pause %1 9\n%pause %2 8\n" {
		t.Errorf("drained %q", all[500:])
	}
	p.output(2, 0, 9, "c")
	p.output(3, 0, 0, "d")
	p.wantDrained("%output %3 d")
}

// There is no room for the pause: the pane is paused, and the client is closed.
func TestC6NoRoomForThePause(t *testing.T) {
	for _, left := range []int{11, 12} {
		p := filled(t, 0, api.Spare-left)
		ahead := p.m.size()
		p.output(1, 0, 9, "a")
		want := behindLine + "\n"
		if left == 12 {
			want = "%pause %1 9\n"
		}
		if all := p.drain(math.MaxInt); all[ahead:] != want {
			t.Errorf("room for %d bytes: %q", left, all[ahead:])
		}
		if peer := p.c.Peer(1); peer.Closed != (left < 12) || !slices.Equal(peer.Paused, []int{1}) {
			t.Errorf("room for %d bytes: %+v", left, peer)
		}
	}
}

func TestC6TickBelow0(t *testing.T) {
	for _, tick := range []int{-1, math.MinInt} {
		p := paired(t, 1000)
		p.output(3, tick, 12, "abc")
		p.output(3, 1, 15, "d")
		p.wantDrained("%pause %3 12")
		if paused := p.c.Peer(1).Paused; !slices.Equal(paused, []int{3}) {
			t.Errorf("paused: %v", paused)
		}
	}
}

func TestC6NoId(t *testing.T) {
	for _, pane := range noIds() {
		p := paired(t, 0)
		p.output(pane, 1, 5, "abc")
		p.output(pane, -1, 5, "abc")
		p.wantDrained()
		if peer := p.c.Peer(1); len(peer.Paused) != 0 || peer.Closed {
			t.Errorf("Output of %d: %+v", pane, peer)
		}
	}
}

// The pane pauses, even where nothing can be told of the offset.
func TestC6OffsetWithoutLine(t *testing.T) {
	for _, offset := range noOffsets() {
		p := paired(t, 13)
		p.output(1, 1, offset, "x")
		p.wantDrained("%output %1 x")
		p.output(1, 1, offset, "xx")
		p.output(1, 1, 3, "x")
		p.wantDrained()
		if peer := p.c.Peer(1); !slices.Equal(peer.Paused, []int{1}) || peer.Closed {
			t.Errorf("offset %d: %+v", offset, peer)
		}
	}
}

func TestC6Closed(t *testing.T) {
	p := paired(t, 20)
	p.exit("x")
	p.output(1, 1, 0, "a")
	p.output(1, -1, 0, "a")
	p.output(2, 1, 0, strings.Repeat("a", 500))
	p.wantDrained("%exit x")
	if paused := p.c.Peer(1).Paused; len(paused) != 0 {
		t.Errorf("paused: %v", paused)
	}
}

func TestC7Late(t *testing.T) {
	p := paired(t, 100)
	p.output(1, 5, 0, "a")
	for _, tick := range []int{0, 7, 8, 5000, math.MaxInt} {
		if late := p.late(tick); len(late) != 0 {
			t.Errorf("without an age: Late(%d) = %v", tick, late)
		}
	}
	p.setAge(2)
	for tick, want := range map[int]int{math.MinInt: 0, math.MinInt + 1: 0, -1: 0, 0: 0, 5: 0, 6: 0, 7: 0, 8: 1, 9: 1, math.MaxInt: 1} {
		if late := p.late(tick); len(late) != want {
			t.Errorf("Late(%d) = %v", tick, late)
		}
	}
	p.setAge(0)
	if late := p.late(8); len(late) != 0 {
		t.Errorf("the age is 0 again: Late(8) = %v", late)
	}
	p.setAge(3)
	if late := p.late(8); len(late) != 0 {
		t.Errorf("the age is 3: Late(8) = %v", late)
	}
	p.setAge(2)
	p.drain(999)
	if late := p.late(8); len(late) != 0 {
		t.Errorf("behind a drain: Late(8) = %v", late)
	}
}

func TestC7OldestLine(t *testing.T) {
	p := paired(t, 1000)
	p.setAge(1)
	p.output(1, 2, 0, "a")
	p.output(1, 9, 1, "b")
	if late := p.late(4); !slices.Equal(late, []int{1}) {
		t.Errorf("Late(4) = %v", late)
	}
	p.drain(12)
	if late := p.late(4); !slices.Equal(late, []int{1}) {
		t.Errorf("the line's end waits still: Late(4) = %v", late)
	}
	p.drain(1)
	if late := p.late(4); len(late) != 0 {
		t.Errorf("Late(4) = %v", late)
	}
	if late := p.late(11); !slices.Equal(late, []int{1}) {
		t.Errorf("Late(11) = %v", late)
	}
}

// The lines of the calls' order count, not the least tick.
func TestC7TicksThatFall(t *testing.T) {
	p := paired(t, 1000)
	p.setAge(5)
	p.output(1, 9, 0, "a")
	p.output(1, 2, 1, "b")
	for _, tick := range []int{8, 13, 14, 15} {
		p.late(tick)
	}
	if late := p.late(14); len(late) != 0 {
		t.Errorf("Late(14) = %v", late)
	}
	p.output(2, math.MaxInt, 0, "c")
	p.late(math.MaxInt)
	p.late(math.MinInt)
}

func TestC7SeveralPanes(t *testing.T) {
	p := paired(t, 1000)
	p.setAge(10)
	for i, pane := range []int{7, 3, 9, 3, 1, 12} {
		p.output(pane, 10*i, 0, "x")
	}
	p.pause(3, 1)
	for tick := -5; tick < 80; tick++ {
		p.late(tick)
	}
	if late := p.late(61); !slices.Equal(late, []int{1, 7, 9, 12}) {
		t.Errorf("Late(61) = %v", late)
	}
	p.goOn(3, 1)
	if late := p.late(61); !slices.Equal(late, []int{1, 3, 7, 9, 12}) {
		t.Errorf("Late(61) = %v", late)
	}
	p.notify(api.Event{Kind: api.EvOutput, Pane: 5, Text: "no output of Output"})
	p.late(1000)
	p.exit("")
	if late := p.late(61); len(late) != 0 {
		t.Errorf("a closed client: Late(61) = %v", late)
	}
}

func TestC7ChangesNothing(t *testing.T) {
	p := paired(t, 1000)
	p.setAge(1)
	p.output(1, 1, 0, "a")
	for range 3 {
		if late := p.late(9); !slices.Equal(late, []int{1}) {
			t.Fatalf("Late(9) = %v", late)
		}
	}
	p.output(1, 2, 1, "b")
	p.wantDrained("%output %1 a", "%output %1 b")
}

func TestC8PauseAndContinue(t *testing.T) {
	p := paired(t, 0)
	p.goOn(1, 3)
	p.wantDrained()
	p.pause(1, 3)
	p.pause(1, 4)
	p.wantDrained("%pause %1 3")
	p.pause(2, 0)
	p.goOn(1, 5)
	p.goOn(1, 6)
	p.goOn(3, 6)
	p.wantDrained("%pause %2 0", "%continue %1 5")
	p.pause(1, api.MaxNumber)
	p.goOn(2, api.MaxNumber)
	p.wantDrained("%pause %1 4611686018427387904", "%continue %2 4611686018427387904")
	p.pause(api.MaxNumber, 0)
	p.wantDrained("%pause %4611686018427387904 0")
	if paused := p.c.Peer(1).Paused; !slices.Equal(paused, []int{1, api.MaxNumber}) {
		t.Errorf("paused: %v", paused)
	}
}

func TestC8NoId(t *testing.T) {
	p := paired(t, 0)
	for _, pane := range noIds() {
		p.pause(pane, 3)
		p.goOn(pane, 3)
		p.pause(pane, -3)
	}
	p.wantDrained()
	if paused := p.c.Peer(1).Paused; len(paused) != 0 {
		t.Errorf("paused: %v", paused)
	}
}

func TestC8OffsetWithoutLine(t *testing.T) {
	for _, offset := range noOffsets() {
		p := paired(t, 100)
		p.pause(1, offset)
		p.output(1, 1, 0, "x")
		p.pause(1, 5)
		if paused := p.c.Peer(1).Paused; !slices.Equal(paused, []int{1}) {
			t.Errorf("Pause(1, %d): %v", offset, paused)
		}
		p.wantDrained()
		p.goOn(1, offset)
		p.wantDrained()
		p.output(1, 1, 0, "x")
		p.goOn(1, 5)
		p.wantDrained("%output %1 x")
		if peer := p.c.Peer(1); len(peer.Paused) != 0 || peer.Closed {
			t.Errorf("Continue(1, %d): %+v", offset, peer)
		}
	}
}

// There is no room to tell it: the pane is paused, or no more, and the client is closed.
func TestC8NoRoom(t *testing.T) {
	for _, left := range []int{0, 11, 12} {
		p := filled(t, 30, 30+api.Spare-left)
		p.pause(2, 0)
		if peer := p.c.Peer(1); peer.Closed != (left < 12) || !slices.Equal(peer.Paused, []int{2}) {
			t.Errorf("Pause with room for %d: %+v", left, peer)
		}
	}
	for _, left := range []int{0, 14, 15} {
		p := filled(t, 30, 30+api.Spare-left-12)
		p.pause(2, 0)
		p.goOn(2, 0)
		if peer := p.c.Peer(1); peer.Closed != (left < 15) || len(peer.Paused) != 0 {
			t.Errorf("Continue with room for %d: %+v", left, peer)
		}
		if all := p.drain(math.MaxInt); left < 15 && !strings.HasSuffix(all, "\n%pause %2 0\n"+behindLine+"\n") {
			t.Errorf("Continue with room for %d: %q", left, all[len(all)-60:])
		}
	}
}

func TestC8Closed(t *testing.T) {
	p := paired(t, 100)
	p.pause(1, 1)
	p.exit("")
	p.pause(2, 1)
	p.goOn(1, 1)
	p.wantDrained("%pause %1 1", "%exit")
	if paused := p.c.Peer(1).Paused; !slices.Equal(paused, []int{1}) {
		t.Errorf("a closed client's panes are paused: %v", paused)
	}
}

func TestC8ManyPanes(t *testing.T) {
	p := paired(t, api.MaxLimit)
	var lines []string
	for pane := 40; pane > 0; pane-- {
		p.pause(pane, pane)
		lines = append(lines, fmt.Sprintf("%%pause %%%d %d", pane, pane))
	}
	p.wantDrained(lines...)
	if paused := p.c.Peer(1).Paused; len(paused) != 40 || !slices.IsSorted(paused) {
		t.Errorf("paused: %v", paused)
	}
}
