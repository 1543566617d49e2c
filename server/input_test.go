package server

import (
	"fmt"
	"math"
	"slices"
	"strings"
	"testing"

	"mullion/api"
)

func TestP164NoSuchClient(t *testing.T) {
	p := working(t)
	for _, number := range []int{math.MinInt, -1, 0, 2, 5, math.MaxInt} {
		for _, text := range []string{"", "ls\n", strings.Repeat("x", api.MaxChunk+1)} {
			p.step(sending(number, text), api.ErrClient)
		}
	}
	p.attach(2, 0).detach(2).step(sending(2, "ls\n"), api.ErrClient)
}

func TestP164LongTexts(t *testing.T) {
	p := working(t).send(1, "# begun")
	for _, size := range []int{api.MaxChunk + 1, 2 * api.MaxChunk} {
		p.step(sending(1, strings.Repeat("\n", size)), api.ErrLong)
	}
	p.send(1, "\n").told(1, block(0, 2, true)...)
	half := strings.Repeat("x", api.MaxChunk/2-2)
	p.send(1, "#"+half+"\n#"+half+"\n").told(1, lines(block(0, 3, true), block(0, 4, true))...)
	p.send(1, strings.Repeat("x", api.MaxChunk)).send(1, "\n").told(1, failed(0, 5, api.ErrLong, "line")...)
}

// A line is carried out when its end has come, and not ahead of that.
func TestP164WithinALine(t *testing.T) {
	p := working(t)
	for _, piece := range []string{"ren", "", "ame", "w a", " ", "b"} {
		p.send(1, piece).told(1)
	}
	if name := p.s.State().Windows[0].Name; name != "sh" {
		t.Fatalf("the name is %q", name)
	}
	p.send(1, "\nrenamew c\nrena").told(1, lines(failed(0, 2, api.ErrCount, "rename-window"), block(0, 3, true), "%window-renamed @1 c")...)
	p.tick(2).send(1, "mew d").send(1, "\n").told(1, lines(block(2, 4, true), "%window-renamed @1 d")...)
}

func TestP164SeveralLines(t *testing.T) {
	working(t).input(1, "renamew x", "", "lsp", "# remark", "nothing", "renamew y").told(1, lines(
		block(0, 2, true), "%window-renamed @1 x",
		block(0, 3, true),
		block(0, 4, true, "0: [80x24] %1 (active)"),
		block(0, 5, true),
		failed(0, 6, api.ErrVerb, "nothing"),
		block(0, 7, true), "%window-renamed @1 y")...)
}

func TestP164LongLines(t *testing.T) {
	p := working(t)
	for i, size := range []int{api.MaxLine - 1, api.MaxLine, api.MaxLine + 1, api.MaxChunk - 1} {
		want := block(0, 2+i, true)
		if size > api.MaxLine {
			want = failed(0, 2+i, api.ErrLong, "line")
		}
		p.input(1, "#"+strings.Repeat("x", size-1)).told(1, want...)
	}
	p.send(1, strings.Repeat("x", 9000)).send(1, "x\nrenamew x\n"+strings.Repeat("y", 8200)).send(1, "\n")
	p.told(1, lines(failed(0, 6, api.ErrLong, "line"), block(0, 7, true), "%window-renamed @1 x", failed(0, 8, api.ErrLong, "line"))...)
}

// A body line that looks like a guard is none, and every other byte can be told.
func TestP164Bodies(t *testing.T) {
	p := working(t).input(1, `display -p "%end 0 2 1"`).told(1, block(0, 2, true, `\045end 0 2 1`)...)
	p.output(1, "%a\nb\\\x01\xff\n\n%exit").told(1, `%output %1 %a\012b\134\001`+"\xff"+`\012\012%exit`)
	p.input(1, "capturep").told(1, block(0, 3, true, `\045a`, `b\134\001`+"\xff", "", `\045exit`)...)
}

// An answer that is too long fails, but what was done is done, told, and asked.
func TestP164TooLongAnAnswer(t *testing.T) {
	p := working(t).attach(2, 1000)
	p.told(2, lines(greeted(0), madeLines(1, 1, 1, "work"), "%session-changed $1 work")...)
	line := "renamew x ; display hello" + strings.Repeat(" ; lscm", 14)
	p.input(1, line).told(1, lines(failed(0, 2, api.ErrLong, "answer"), "%window-renamed @1 x", "%message hello")...)
	p.told(2, "%window-renamed @1 x")
}

// Behind a line that closes its client no further one is carried out, and none that comes later.
func TestP164LinesBehindTheLast(t *testing.T) {
	for line, want := range map[string][]string{
		"detach":       {"%exit detached"},
		"kill-session": {"%session-close $1", "%window-close @1", "%pane-close %1", "%exit session closed"},
		"kill-server":  {"%session-close $1", "%session-close $2", "%window-close @1", "%window-close @2", "%pane-close %1", "%pane-close %2", "%exit server exited"},
	} {
		p := working(t).input(1, "new -d -s play")
		p.drainAll().send(1, line+"\nnew -s other\nrenamew z\nren").send(1, "amew y\nnew\n")
		if peer := p.peer(1); !peer.Closed || peer.Count != 3 {
			t.Errorf("behind %s: %+v", line, peer)
		}
		p.told(1, lines(block(0, 3, true), want)...).there()
		for _, x := range p.s.State().Sessions {
			if x.Name == "other" {
				t.Errorf("a line behind %s was carried out", line)
			}
		}
	}
}

// A client whose queue has no room for a block is closed, and the line was carried out all the same; those behind it not.
func TestP164NoRoomForABlock(t *testing.T) {
	for _, left := range []int{100, 50, 49, 48, 47, 46, 45, 30, 29, 28, 27, 26, 25, 12, 1, 0} {
		p := working(t).attach(2, 1000)
		p.drainAll().fill(1, left)
		want := append(block(0, p.peer(1).Count+1, true), "%window-renamed @1 x")
		fits := left >= sizeOf(want[:2])
		p.input(1, "renamew x").told(2, "%window-renamed @1 x")
		if peer := p.peer(1); peer.Closed != (left < sizeOf(want)) {
			t.Fatalf("with %d left: %+v", left, peer)
		}
		p.input(1, "renamew y")
		if got := p.drain(1, math.MaxInt); strings.Contains(got, strings.Join(want[:2], "\n")) != fits || left < sizeOf(want) && !strings.HasSuffix(got, "\n%exit too far behind\n") {
			t.Errorf("with %d left, at the end: %q", left, got[len(got)-100:])
		}
		if left < sizeOf(want) {
			p.told(2).there(2)
		}
	}
}

// A client that can't be told the difference is closed; the others are told it.
func TestP164NoRoomForTheDifference(t *testing.T) {
	const line = "%window-renamed @1 x"
	for _, left := range []int{len(line) + 1, len(line), 1, 0} {
		p := working(t).attach(2, 0).attach(3, 100).fill(2, left)
		p.drain(1, math.MaxInt)
		p.input(1, "renamew x").told(1, lines(block(0, 2, true), line)...)
		got := p.drain(2, math.MaxInt)
		want := map[bool]string{true: line, false: "%exit too far behind"}[left > len(line)]
		if !strings.HasSuffix(got, " 1\n"+want+"\n") {
			t.Errorf("with %d left, at the end: %q", left, got[len(got)-100:])
		}
		if got := p.drain(3, math.MaxInt); !strings.HasSuffix(got, line+"\n") {
			t.Errorf("client 3, at the end: %q", got[len(got)-100:])
		}
	}
}

// Acts that find what they ask for.
func TestP164Acts(t *testing.T) {
	p := working(t).attach(2, 1000)
	p.drainAll().input(1, "new -d -s play", "splitw -d -t work").output(1, "abc").drainAll()

	p.input(1, "switchc -t play").told(1, lines(block(0, 4, true), "%session-changed $2 play")...)
	p.input(1, "refresh -f pause-after=7").told(1, block(0, 5, true)...)
	p.input(1, "refresh -A %1:pause").told(1, lines(block(0, 6, true), "%pause %1 3")...)
	p.input(1, "refresh -A %1:pause").told(1, block(0, 7, true)...)
	p.output(1, "de").told(2, "%output %1 de")
	p.input(1, "refresh -A %3:continue").told(1, block(0, 8, true)...)
	p.input(1, "refresh -A %1:continue").told(1, lines(block(0, 9, true), "%continue %1 5")...)
	p.input(1, "refresh -A %3:pause").told(1, lines(block(0, 10, true), "%pause %3 0")...)
	p.input(1, "refresh -B w:@*:#W").told(1, block(0, 11, true)...)
	p.input(1, "refresh -B v:%1:x", "refresh -B w").told(1, lines(block(0, 12, true), block(0, 13, true))...)
	p.input(1, `display -t %1 "#S\n"`).told(1, lines(block(0, 14, true), `%message work\012`)...)
	p.told(2)
	want := api.Peer{Client: 1, Session: 2, Limit: 1000, Age: 7, Count: 14, Paused: []int{3}, Watches: []api.Watch{{Name: "v", What: "%1", Format: "x"}}}
	if got := p.peer(1); telling(got) != telling(want) {
		t.Errorf("the client is %+v, and not %+v", got, want)
	}
	p.input(1, "refresh -f !pause-after", "detach").told(1, lines(block(0, 15, true), block(0, 16, true), "%exit detached")...).there(2)
	p.told(2)
}

// Sessions and panes that the line itself has closed.
func TestP164ActsThatFindNothing(t *testing.T) {
	p := begun(t).attach(1, 1000)
	p.drainAll().input(1, "new -s a ; kill-session -t a").told(1, block(0, 1, true)...)
	if peer := p.peer(1); peer.Session != 0 {
		t.Errorf("in a session that is gone: %+v", peer)
	}
	p.input(1, "new -s b", "splitw -d").drainAll()
	p.input(1, "new -s c ; kill-session -t c").told(1, block(0, 4, true)...)
	if peer := p.peer(1); peer.Session != 2 || peer.Closed {
		t.Errorf("in another session: %+v", peer)
	}
	p.input(1, "refresh -A %3:pause ; killp -t %3").told(1, lines(block(0, 5, true),
		"%layout-change @2 b25f,80x24,0,0,2 b25f,80x24,0,0,2 -", "%pane-close %3")...)
	p.input(1, "splitw -d", "refresh -A %5:pause").drainAll().input(1, "refresh -A %5:continue ; killp -t %5")
	p.told(1, lines(block(0, 8, true), "%layout-change @2 b25f,80x24,0,0,2 b25f,80x24,0,0,2 -", "%pane-close %5")...)
	if peer := p.peer(1); len(peer.Paused) != 0 {
		t.Errorf("panes that are gone are paused: %+v", peer)
	}
	p.input(1, "refresh -B nothing").told(1, block(0, 9, true)...)
}

// The ninth watch is refused, and its line is good all the same.
func TestP164AWatchThatIsRefused(t *testing.T) {
	p := working(t)
	for i := range 9 {
		p.input(1, fmt.Sprintf("refresh -B w%d::%d", i, i))
	}
	if got := len(p.peer(1).Watches); got != 8 {
		t.Errorf("%d watches", got)
	}
	p.input(1, "refresh -B w3:%*:other", "refresh -B w0", "refresh -B w9::9")
	var names []string
	for _, w := range p.peer(1).Watches {
		names = append(names, w.Name+w.Format)
	}
	if !slices.Equal(names, strings.Fields("w11 w22 w3other w44 w55 w66 w77 w99")) {
		t.Errorf("the watches are %v", names)
	}
	if got := p.drain(1, math.MaxInt); strings.Count(got, "%end") != 12 {
		t.Errorf("told %q", got)
	}
}

// Acts are done in their order, and nothing is told behind the one that closes the client.
func TestP164OrderOfTheActs(t *testing.T) {
	p := working(t)
	p.input(1, "display a ; refresh -A %1:pause ; new -s b ; display '' ; refresh -A %1:continue ; detach ; display c ; renamew x")
	p.told(1, lines(block(0, 2, true), madeLines(2, 2, 2, "b")[0], "%window-add @2 x", madeLines(2, 2, 2, "b")[2:],
		"%message a", "%pause %1 0", "%session-changed $2 b", "%message ", "%continue %1 0", "%exit detached")...)
	p = working(t).attach(3, 1000)
	p.drainAll().input(3, "kill-server ; detach ; refresh -f pause-after=3")
	if peer := p.peer(3); peer.Age != 0 {
		t.Errorf("an act behind the last line was done: %+v", peer)
	}
	p.told(3, lines(block(0, 1, true), "%session-close $1", "%window-close @1", "%pane-close %1", "%exit server exited")...)
	p.told(1, "%session-close $1", "%window-close @1", "%pane-close %1", "%exit server exited").there()
}

// A line is carried out in the session in which its client is then; each of its commands in the one to which those ahead of it lead.
func TestP164TheClientsSession(t *testing.T) {
	p := working(t).input(1, "new -d -s play").attach(2, 9999)
	p.drainAll().input(2, "switchc -t play", "display -p '#S'").told(2, lines(block(0, 1, true), "%session-changed $2 play", block(0, 2, true, "play"))...)
	p.input(1, "display -p '#S'").told(1, block(0, 3, true, "work")...)
	p.input(1, "display -p '#S' ; switchc -t play ; display -p '#S' ; switchc -t work ; display -p '#S'")
	p.told(1, lines(block(0, 4, true, "work", "play", "work"), "%session-changed $2 play", "%session-changed $1 work")...)
	p.attach(3, 100).detach(3)
	q := begun(t).attach(1, 9999).input(1, "splitw")
	q.told(1, lines(greeted(0), failed(0, 1, api.ErrNowhere, ""))...)
}

// What is told is the difference that the whole line makes.
func TestP164TheDifference(t *testing.T) {
	p := working(t)
	for number := 2; number <= 4; number++ {
		p.attach(number, 1000)
	}
	p.drainAll()
	all := func(want ...string) {
		t.Helper()
		for number := 1; number <= 4; number++ {
			p.told(number, want...)
		}
	}
	p.input(3, "renamew x ; renamew sh ; neww ; killw")
	p.told(3, block(0, 1, true)...)
	all()
	p.input(3, "renamew a ; killp -t %9 ; renamew b")
	p.told(3, lines(failed(0, 2, api.ErrTarget, "%9"), "%window-renamed @1 a")...).told(1, "%window-renamed @1 a").told(2, "%window-renamed @1 a").told(4, "%window-renamed @1 a")
	p.input(3, "splitw ; renamew b")
	for _, number := range []int{1, 2, 4} {
		p.told(number, "%pane-add %3 0", "%window-renamed @1 b", "%layout-change @1 "+halves+" "+halves+" -", "%window-pane-changed @1 %3")
	}
	p.drainAll().input(3, "nothing ; renamew c")
	p.told(3, failed(0, 4, api.ErrVerb, "nothing")...)
	all()
	p.input(2, "ls").told(2, block(0, 1, true, "work: 1 windows")...)
	all()
}

const halves = "c19a,80x24,0,0[80x12,0,0,1,80x11,0,13,3]"

// Who is told by a line, and who is closed by it: clients in the session that goes, in another one, in none.
func TestP164ClosedSessions(t *testing.T) {
	p := begun(t).attach(3, 9999).input(3, "new -d -s a", "new -d -s b").attach(1, 9999).attach(2, 9999).attach(4, 9999).input(2, "switchc -t b")
	p.drainAll()
	gone := []string{"%session-close $1", "%window-close @1", "%pane-close %1"}
	p.input(2, "kill-session -t a").told(1, lines(gone, "%exit session closed")...).told(4, lines(gone, "%exit session closed")...)
	p.told(2, lines(block(0, 2, true), gone)...).told(3, gone...).there(2, 3)
	p.input(3, "kill-session -t b").told(2, "%session-close $2", "%window-close @2", "%pane-close %2", "%exit session closed").there(3)
	if peer := p.peer(3); peer.Session != 0 || peer.Closed {
		t.Errorf("the client in no session: %+v", peer)
	}
}

// A client that goes elsewhere by the very line that closes its session stays.
func TestP164GoesElsewhere(t *testing.T) {
	p := working(t)
	p.input(1, "kill-session ; new -s next")
	p.told(1, lines(block(0, 2, true), madeLines(2, 2, 2, "next"), "%session-close $1", "%window-close @1", "%pane-close %1", "%session-changed $2 next")...)
	if peer := p.peer(1); peer.Session != 2 || peer.Closed {
		t.Errorf("the client: %+v", peer)
	}
	p.input(1, "new -d -s third ; kill-session ; has").told(1, lines(failed(0, 3, api.ErrNowhere, ""), madeLines(3, 3, 3, "third"),
		"%session-close $2", "%window-close @2", "%pane-close %2", "%exit session closed")...)
}

// A session goes with its last window, however that goes.
func TestP164SessionsThatGoWithTheirWindows(t *testing.T) {
	for _, line := range []string{"killw", "killp", "unlinkw -k", "movew -t other:", "joinp -s %1 -t other:", "kill-session"} {
		p := working(t).input(1, "new -d -s other").attach(2, 999).input(2, "switchc -t other")
		p.drainAll().input(1, line)
		for number, want := range map[int]bool{1: true, 2: false} {
			if peer := p.peer(number); peer.Closed != want {
				t.Errorf("behind %s: %+v", line, peer)
			}
		}
		if got := p.drain(1, math.MaxInt); !strings.HasSuffix(got, "%exit session closed\n") || !strings.Contains(got, "%session-close $1\n") {
			t.Errorf("behind %s: told %q", line, got)
		}
		p.there(2)
	}
}
