package house

import (
	"fmt"
	"strings"
	"testing"

	"mullion/api"
)

// tellOf plays lines of a script behind a server line; what is told must be what the tests' own house tells.
func tellOf(t *testing.T, lines ...string) told {
	t.Helper()
	text := begin + strings.Join(lines, "\n")
	got, n, err := Run(text)
	if n != 0 || err != api.OK {
		t.Fatalf("Run(%q): line %d, error %d", text, n, err)
	}
	if want, _ := played(config, read(text).l); got != want {
		t.Fatalf("Run(%q): %s", text, differing(got, want))
	}
	o := takeApart(t, got)
	o.wantTrue(t)
	return o
}

// wantLines asks for just these lines.
func wantLines(t *testing.T, got []string, want ...string) {
	t.Helper()
	if strings.Join(got, "\n") != strings.Join(want, "\n") {
		t.Errorf("told is\n%s\nand not\n%s", strings.Join(got, "\n"), strings.Join(want, "\n"))
	}
}

// wantHas asks that of all lines just these begin so.
func wantHas(t *testing.T, lines []string, head string, want ...string) {
	t.Helper()
	wantLines(t, those(lines, head), want...)
}

func TestP184Nothing(t *testing.T) {
	for _, l := range [][]api.Entry{nil, {}} {
		if got, err := Play(config, l); got != "server, tick 0\n" || err != api.OK {
			t.Errorf("%q, error %d", got, err)
		}
	}
}

// Each kind of entry, taken and refused.
func TestP184Steps(t *testing.T) {
	o := tellOf(t, "tick", "attach 1 100", "attach 1 100", "attach 0 1", "attach 5 1", "attach 2 65537", "detach 2", "input 2 a", `input 1 new\012`, "drain 2 1", "drain 1 24", "drain 1 0", "drain 1 9999", "drain 1 9",
		"output 9 a", "output 1 a", "output 1 ", "done 9", "done 1", "tick", "input 1 "+strings.Repeat("x", api.MaxChunk+1), "output 1 "+strings.Repeat("x", api.MaxChunk+1), "detach 1", "detach 1")
	wantLines(t, o.steps, "0: ok", "1: ok", "2: error 160", "3: error 160", "4: error 160", "5: error 1", "6: error 160", "7: error 160", "8: ok", "9: error 160", "10: ok, 24 bytes", "11: ok", "12: ok, 228 bytes", "13: ok",
		"14: error 42", "15: ok", "16: ok", "17: error 42", "18: ok", "19: ok", "20: error 2", "21: error 2", "22: ok", "23: error 160")
	wantLines(t, o.server, "server, tick 2")
}

// Entries that no script says: a kind that is none is an error; fields that are not named are not looked at.
func TestP184EntriesThatNoScriptSays(t *testing.T) {
	l := []api.Entry{{}, {Kind: api.InOpen, Client: 1, Pane: 80, N: 24}, {Kind: -1}, {Kind: 99}, {Kind: api.InTick, Client: 9, Pane: 9, N: 9, Text: "x"}, {Kind: api.InAttach, Client: 1, Pane: -3, N: 10, Text: "y"},
		{Kind: api.InDrain, Client: 1, N: -1}, {Kind: api.InDrain, Client: 1, N: 1 << 62, Text: "z"}, {Kind: api.InDetach, Client: -1}, {Kind: api.InDone, Pane: -1}, {Kind: api.InAttach, Client: 2, N: -1}}
	got, err := Play(config, l)
	want := "0: error 1\n1: error 1\n2: error 1\n3: error 1\n4: ok\n5: ok\n6: error 1\n7: ok, 24 bytes\n8: error 160\n9: error 42\n10: error 1\nserver, tick 1\nclient 1 from entry 5\n  in -\n  reply 0 at 1 good\n  agrees\n"
	if got != want || err != api.OK {
		t.Errorf("%s, error %d", got, err)
	}
}

func TestP184ErrorsOfPlay(t *testing.T) {
	many := make([]api.Entry, api.MaxEntries+1)
	for _, c := range []api.Config{config, {}, {W: -1}} {
		if got, err := Play(c, many); got != "" || err != api.ErrFull {
			t.Errorf("%v and too many entries: %q, error %d", c, got, err)
		}
	}
	for _, c := range []api.Config{{}, {W: 0, H: 24, Tail: 100}, {W: 80, H: 1001, Tail: 100}, {W: 80, H: 24, Tail: -1}, {W: 80, H: 24, Tail: 65537}} {
		if got, err := Play(c, nil); got != "" || err != api.ErrArg {
			t.Errorf("%v: %q, error %d", c, got, err)
		}
		if got, err := Play(c, many[1:]); got != "" || err != api.ErrArg {
			t.Errorf("%v and entries: %q, error %d", c, got, err)
		}
	}
	if got, err := Play(config, many[1:]); strings.Count(got, ": error 1\n") != api.MaxEntries || err != api.OK {
		t.Errorf("MaxEntries entries: %d bytes, error %d", len(got), err)
	}
}

// Sessions with several links, windows with several panes, what was current and active ahead, zoom.
func TestP184StateLines(t *testing.T) {
	o := tellOf(t, "attach 1 9999", `input 1 new -s a\012neww -n x\012splitw -h\012linkw -d -s @1 -t 7\012new -d -s 'b c'\012selectw -t a:7\012resizep -Z -t %3\012`, "drain 1 9999")
	wantLines(t, o.server, "server, tick 0",
		"  session $1 a current 7 last 1 links 0:@1 1:@2 7:@1",
		"  session $2 b c current 0 last - links 0:@3",
		"  window @1 sh active %1 last - whole b25e,80x24,0,0,1",
		"  window @2 x active %3 last %2 zoomed 820e,80x24,0,0{40x24,0,0,2,39x24,41,0,3}",
		"  window @3 sh active %4 last - whole b261,80x24,0,0,4",
		"  pane %1 0..0 typed ", "  pane %2 0..0 typed ", "  pane %3 0..0 typed ", "  pane %4 0..0 typed ")
	wantLines(t, stateLines(o.pages[0].lines),
		"  session $1 a current 7 last - links 0:@1 1:@2 7:@1",
		"  session $2 b c current 0 last - links 0:@3",
		"  window @1 sh active %1 last - whole b25e,80x24,0,0,1",
		"  window @2 x active %3 last - zoomed 820e,80x24,0,0{40x24,0,0,2,39x24,41,0,3}",
		"  window @3 sh active %4 last - whole b261,80x24,0,0,4")
}

// Panes by rising id, wherever they stand; what is kept of them; what was typed.
func TestP184PaneLines(t *testing.T) {
	o := tellOf(t, "attach 1 0", `input 1 new\012splitw -b\012neww\012splitw -b -t %1\012send -t %2 a Enter \134\134\012send -t %3 -l 'x y'\012`, "output 2 abc", "output 4 "+strings.Repeat("x", 250), "done 3")
	wantHas(t, o.server, "  pane ", "  pane %1 0..0 typed ", `  pane %2 0..3 typed a\015\134`, "  pane %4 150..250 typed ")
	o = tellOf(t, "attach 1 0", `input 1 new\012send -l 'x y'\012`)
	wantHas(t, o.server, "  pane ", "  pane %1 0..0 typed x y")
}

// lengths is how many bytes a client is told up to the end of each line.
func lengths(t *testing.T, lines ...string) ([]string, []int) {
	t.Helper()
	m, _ := runOf(config, read(begin+strings.Join(lines, "\n")).l)
	wire := strings.SplitAfter(strings.TrimSuffix(m.owner(1).told, "\n"), "\n")
	var ends []int
	sum := 0
	for _, line := range wire {
		sum += len(strings.TrimSuffix(line, "\n")) + 1
		ends = append(ends, sum)
	}
	return wire, ends
}

// A mirror that has had some of the lines knows a state on its way.
func TestP184OnTheWay(t *testing.T) {
	script := []string{"attach 1 9999", `input 1 new -s w\012`, "drain 1 9999"}
	wire, ends := lengths(t, script...)
	want := map[string][]string{
		"%pane-add %1 0\n":    nil,
		"%window-add @1 sh\n": {"  window @1 sh active - last - whole -"},
		"%layout-change @1 b25e,80x24,0,0,1 b25e,80x24,0,0,1 -\n": {"  window @1 sh active - last - whole b25e,80x24,0,0,1"},
		"%window-pane-changed @1 %1\n":                            {"  window @1 sh active %1 last - whole b25e,80x24,0,0,1"},
		"%session-add $1 w\n":                                     {"  session $1 w current - last - links", "  window @1 sh active %1 last - whole b25e,80x24,0,0,1"},
		"%window-link $1 0 @1\n":                                  {"  session $1 w current - last - links 0:@1", "  window @1 sh active %1 last - whole b25e,80x24,0,0,1"},
		"%session-window-changed $1 0\n":                          {"  session $1 w current 0 last - links 0:@1", "  window @1 sh active %1 last - whole b25e,80x24,0,0,1"},
	}
	met := 0
	for i, line := range wire {
		state, ok := want[line]
		if !ok {
			continue
		}
		met++
		o := tellOf(t, script[0], script[1], fmt.Sprintf("drain 1 %d", ends[i]))
		wantLines(t, o.pages[0].lines, append(append([]string{"  in -"}, state...), "  feed %1 0..0 bytes ", "  reply 0 at 0 good", "  reply 1 at 0 good", "  behind")...)
	}
	if met != len(want) {
		t.Errorf("%d of %d lines were met: %q", met, len(want), wire)
	}
}

// Byte by byte: the rest is what has come of a line; where a line has just ended there is none.
func TestP184Rest(t *testing.T) {
	script := []string{"attach 1 9999", `input 1 new -s w\012`, "drain 1 9999"}
	_, ends := lengths(t, script...)
	from := 0
	for _, end := range ends {
		for n := from; n < end; n++ {
			o := tellOf(t, script[0], script[1], fmt.Sprintf("drain 1 %d", n))
			if n == from {
				wantHas(t, o.pages[0].lines, "  rest ")
			} else {
				wantHas(t, o.pages[0].lines, "  rest ", fmt.Sprintf("  rest %d bytes", n-from))
			}
			wantHas(t, o.pages[0].lines, "  behind", "  behind")
		}
		from = end
	}
	o := tellOf(t, script...)
	wantHas(t, o.pages[0].lines, "  rest ")
	wantHas(t, o.pages[0].lines, "  agrees", "  agrees")
}

// Feeds: from where on, how far, paused or not, with gaps and without.
func TestP184Feeds(t *testing.T) {
	lines := []string{"attach 1 9999", `input 1 new\012splitw\012`, `output 1 a\134b\012`, "attach 2 9999", "output 1 cd", "output 2 x", "drain 1 9999", "drain 2 9999"}
	o := tellOf(t, lines...)
	wantHas(t, o.pages[0].lines, "  feed ", `  feed %1 0..6 bytes a\134b\012cd`, "  feed %2 0..1 bytes x")
	wantHas(t, o.pages[1].lines, "  feed ", "  feed %1 4..6 bytes cd", "  feed %2 0..1 bytes x")
	lines = append(lines, `input 1 refresh -A %1:pause\012`, "output 1 lost", "drain 1 9999")
	o = tellOf(t, lines...)
	wantHas(t, o.pages[0].lines, "  feed ", `  feed %1 0..6 paused bytes a\134b\012cd`, "  feed %2 0..1 bytes x")
	wantHas(t, o.pages[0].lines, "  agrees", "  agrees")
	lines = append(lines, `input 1 refresh -A %1:continue\012`, "output 1 e", "drain 1 9999")
	o = tellOf(t, lines...)
	wantHas(t, o.pages[0].lines, "  feed ", `  feed %1 0..11 gap 6..10 bytes a\134b\012cde`, "  feed %2 0..1 bytes x")
	lines = append(lines, `input 1 refresh -A %1:pause\012`, "output 1 12", `input 1 refresh -A %1:continue\012refresh -A %1:pause\012`, "output 1 3", `input 1 refresh -A %1:continue\012`, "output 1 f", `input 1 refresh -A %2:pause\012`, "drain 1 9999")
	o = tellOf(t, lines...)
	wantHas(t, o.pages[0].lines, "  feed ", `  feed %1 0..15 gap 6..10 gap 11..14 bytes a\134b\012cdef`, "  feed %2 0..1 paused bytes x")
	wantHas(t, o.pages[0].lines, "  agrees", "  agrees")
	o = tellOf(t, append(lines, "done 1", "drain 1 9999")...)
	wantHas(t, o.pages[0].lines, "  feed ", "  feed %2 0..1 paused bytes x")
}

// Replies good and bad, with lines and without, at their ticks.
func TestP184Replies(t *testing.T) {
	o := tellOf(t, "tick", "attach 1 9999", `input 1 nothing\012`, "tick", "tick", `input 1 new\012display -p %end\012`, `input 1 display -p 'a\134\134b' ; display -p '' ; killp -t %9\012`, "drain 1 9999")
	wantLines(t, those(o.pages[0].lines, "  reply"), "  reply 0 at 1 good", "  reply 1 at 1 bad", "  reply 2 at 3 good", "  reply 3 at 3 good", "  reply 4 at 3 bad")
	wantHas(t, o.pages[0].lines, "    |", "    | unknown command: nothing", "    | %end", `    | a\134\134b`, "    | ", "    | not found: %9")
	o = tellOf(t, "attach 1 9999", `input 1 new\012`, `output 1 a\011b\134`, `input 1 capturep\012`, "drain 1 9999")
	wantHas(t, o.pages[0].lines, "    |", `    | a\011b\134`)
}

func TestP184MessagesAndWatches(t *testing.T) {
	o := tellOf(t, "attach 1 9999", `input 1 new -s w\012display 'a\134\134b'\012display ''\012`, `input 1 refresh -B p:%*:#{pane_bytes}\012refresh -B q::'\134'\012`, "output 1 abc", "tick", "tick", "output 1 d", "tick", "drain 1 9999")
	wantHas(t, o.pages[0].lines, "  message", `  message a\134\134b`, "  message ")
	wantHas(t, o.pages[0].lines, "  watch", "  watch %subscription-changed p $1 @1 0 %1 : 3", `  watch %subscription-changed q $1 @1 0 %1 : \134`, "  watch %subscription-changed p $1 @1 0 %1 : 4")
	o = tellOf(t, "attach 1 9999", `input 1 new -s w\012`, "drain 1 9999")
	wantHas(t, o.pages[0].lines, "  message")
	wantHas(t, o.pages[0].lines, "  watch")
}

// Ends: each reason, told and not told yet.
func TestP184Ends(t *testing.T) {
	o := tellOf(t, "attach 1 9999", "attach 2 9999", "attach 3 9999", `input 1 new\012`, `input 2 new\012`, `input 3 detach\012`, `input 1 kill-session\012`, "attach 4 0", "drain 1 9999", "drain 2 100", "drain 3 9999")
	for i, want := range [][]string{{"  ended session closed", "  gone"}, nil, {"  ended detached", "  gone"}, nil} {
		lines := o.pages[i].lines
		if want == nil {
			want = []string{"  behind"}
		}
		wantLines(t, append(append(append(those(lines, "  ended "), those(lines, "  gone")...), those(lines, "  behind")...), those(lines, "  agrees")...), want...)
	}
	o = tellOf(t, "attach 1 9999", "attach 2 9999", `input 1 kill-server\012`, "drain 2 9999")
	wantLines(t, o.pages[0].lines, "  in -", "  behind")
	wantLines(t, o.pages[1].lines, "  in -", "  reply 0 at 0 good", "  ended server exited", "  gone")
	far := []string{"attach 1 0", `input 1 new\012`}
	for range 9 {
		far = append(far, "input 1 "+strings.Repeat("display -p '#{p1000:x}' ; ", 7)+`has\012`)
	}
	o = tellOf(t, append(far, "drain 1 99999")...)
	wantHas(t, o.pages[0].lines, "  ended ", "  ended too far behind")
	wantHas(t, o.pages[0].lines, "  gone", "  gone")
}

// A client that is gone by InDetach, whether or not it was behind, and one whose queue is not empty yet.
func TestP184GoneAndBehind(t *testing.T) {
	o := tellOf(t, "attach 1 99", "attach 2 99", "attach 3 99", "attach 4 99", "drain 2 99", "drain 3 23", "drain 4 99", "detach 1", "detach 2")
	wantLines(t, o.pages[0].lines, "  in -", "  gone")
	wantLines(t, o.pages[1].lines, "  in -", "  reply 0 at 0 good", "  gone")
	wantLines(t, o.pages[2].lines, "  in -", "  rest 10 bytes", "  behind")
	wantLines(t, o.pages[3].lines, "  in -", "  reply 0 at 0 good", "  agrees")
}

// A number that attaches again has a new mirror; the old one is fed nothing more, and is gone.
func TestP184AttachAgain(t *testing.T) {
	lines := []string{"attach 2 99", "attach 1 99", "drain 1 99", "detach 1", "tick", "attach 1 99", "attach 1 99", "drain 1 20"}
	o := tellOf(t, lines...)
	if len(o.pages) != 3 || o.pages[0].client != 2 || o.pages[1].client != 1 || o.pages[1].entry != 1 || o.pages[2].client != 1 || o.pages[2].entry != 5 {
		t.Fatalf("%+v", o.pages)
	}
	wantLines(t, o.pages[0].lines, "  in -", "  behind")
	wantLines(t, o.pages[1].lines, "  in -", "  reply 0 at 0 good", "  gone")
	wantLines(t, o.pages[2].lines, "  in -", "  rest 7 bytes", "  behind")
	o = tellOf(t, append(lines, "drain 1 99")...)
	wantLines(t, o.pages[1].lines, "  in -", "  reply 0 at 0 good", "  gone")
	wantLines(t, o.pages[2].lines, "  in -", "  reply 0 at 1 good", "  agrees")
	o = tellOf(t, append(lines, "drain 1 99", "detach 1")...)
	wantHas(t, o.pages[1].lines, "  gone", "  gone")
	wantHas(t, o.pages[2].lines, "  gone", "  gone")
	// By an end that was told, too.
	o = tellOf(t, "attach 1 999", `input 1 new -s w ; detach\012`, "drain 1 999", "attach 1 999", "drain 1 999")
	wantHas(t, o.pages[0].lines, "  ended ", "  ended detached")
	wantHas(t, o.pages[0].lines, "  gone", "  gone")
	wantHas(t, o.pages[1].lines, "  ended ")
	wantHas(t, o.pages[1].lines, "  agrees", "  agrees")
}

// Mirrors in the order in which they began, whatever their numbers are.
func TestP184Order(t *testing.T) {
	o := tellOf(t, "attach 4 9", "attach 2 9", "tick", "detach 4", "attach 3 9", "attach 4 9", "attach 9 9", "attach 1 9")
	var got []string
	for _, p := range o.pages {
		got = append(got, fmt.Sprint(p.client, " ", p.entry))
	}
	wantLines(t, got, "4 0", "2 1", "3 4", "4 5", "1 7")
}

// The session that a client is in, as its mirror knows it.
func TestP184In(t *testing.T) {
	lines := []string{"attach 1 9999", `input 1 new -s a\012`, "attach 2 9999", `input 2 new -s b\012`, "attach 3 9999", "drain 1 9999", "drain 2 9999"}
	o := tellOf(t, lines...)
	for i, want := range []string{"  in $1", "  in $2", "  in -"} {
		wantHas(t, o.pages[i].lines, "  in ", want)
	}
	o = tellOf(t, append(lines, "drain 3 9999", `input 3 switchc -t b\012`, "drain 3 9999")...)
	wantHas(t, o.pages[2].lines, "  in ", "  in $2")
}
