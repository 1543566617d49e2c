package exec

import (
	"slices"
	"strings"
	"testing"

	"mullion/api"
	"mullion/verb"
)

func TestE2ListSessions(t *testing.T) {
	d := world(t)
	d.ok("ls", "work: 2 windows", "play: 2 windows").at(0).ok("ls", "work: 2 windows", "play: 2 windows")
	d.ok("ls -F '#{session_id} #I #W #P #D #F #{window_index}'", "$1 1 edit 1 %3 * 1", "$2 0 toy 0 %4 * 0").ok("ls -F ''", "", "").ok("ls -F '#S'", "work", "play")
	d.fails("ls -F '#{a b}'", api.ErrFormat, "#{a b}").fails("ls -F '#{p2000:x}'", api.ErrLong, "#{p2000:x}")
	deep := strings.Repeat("#{n:", 17) + "x" + strings.Repeat("}", 17)
	d.fails("ls -F '"+deep+"'", api.ErrDeep, deep)
	// A format that fails at a later place fails the whole; one that is asked of no place does not.
	d.fails("ls -F '#{?#{==:#S,play},#{},good}'", api.ErrFormat, "#{?#{==:#S,play},#{},good}")
	d.ok("kill-session -t play").ok("ls -F '#{?#{==:#S,play},#{},good}'", "good")
	empty(t).ok("ls").ok("ls -F '#{'")
}

func TestE2ListWindows(t *testing.T) {
	d := world(t).ok("splitw -d").ok("resizep -Z").ok("resizew -t 0 -x 10 -y 5")
	d.ok("lsw", "0: sh- (1 panes) [10x5]", "1: edit*Z (3 panes) [80x24]").ok("lsw -t play", "0: toy* (1 panes) [80x24]", "5: sh (1 panes) [10x5]")
	d.ok("lsw -a", "work:0: sh- (1 panes) [10x5]", "work:1: edit*Z (3 panes) [80x24]", "play:0: toy* (1 panes) [80x24]", "play:5: sh (1 panes) [10x5]")
	d.ok("lsw -a -t nothing -F '#S:#I'", "work:0", "work:1", "play:0", "play:5").ok("lsw -F '#S:#I.#P #D'", "work:0.0 %1", "work:1.1 %3").ok("lsw -F ''", "", "").ok("lsw -t play:5 -F '#I'", "0", "5")
	d.fails("lsw -t nothing -F '#{'", api.ErrTarget, "nothing").fails("lsw -F '#{'", api.ErrFormat, "#{").fails("lsw -a -F '#{' -t nothing", api.ErrFormat, "#{").fails("lsw -F '#{?#{==:#I,1},#{},}'", api.ErrFormat, "#{?#{==:#I,1},#{},}")
	d.at(0).fails("lsw", api.ErrNowhere, "").ok("lsw -at '' -F '#I'", "0", "1", "0", "5").ok("lsw -t work -F '#I'", "0", "1")
	empty(t).ok("lsw -a").ok("lsw -a -F '#{'").fails("lsw", api.ErrNowhere, "")
}

func TestE2ListPanes(t *testing.T) {
	d := world(t).ok("splitw -b -l 3").ok("selectp -t %3")
	const here = "0: [40x24] %2/1: [39x3] %5/2: [39x20] %3 (active)"
	d.ok("lsp", strings.Split(here, "/")...).ok("lsp -t play:5", "0: [80x24] %1 (active)").ok("lsp -t toy: -a -F '#S:#I.#P'", "work:0.0", "work:1.0", "work:1.1", "work:1.2", "play:0.0", "play:5.0")
	d.ok("lsp -s", "0: [80x24] %1 (active)", "0: [40x24] %2", "1: [39x3] %5", "2: [39x20] %3 (active)").ok("lsp -st play:5 -F '#S:#I.#P #D'", "play:0.0 %4", "play:5.0 %1").ok("lsp -s -t %2 -F '#I'", "0", "1", "1", "1")
	// The place that the target means is the one that is told: a window may be linked several times.
	d.ok("lsp -t %1 -F '#S:#I'", "work:0").ok("lsp -t play:5 -F '#S:#I'", "play:5").at(2).ok("lsp -t @1 -F '#S:#I'", "play:5")
	// A zoom changes nothing of the layout; -a counts ahead of -s.
	d.ok("resizep -Z").ok("lsp", strings.Split(here, "/")...).ok("lsp -as -t nothing -F '#D'", "%1", "%2", "%5", "%3", "%4", "%1").ok("lsp -F ''", "", "", "")
	d.fails("lsp -t nothing -F '#{'", api.ErrTarget, "nothing").fails("lsp -st nothing -F '#{'", api.ErrTarget, "nothing").fails("lsp -F '#{'", api.ErrFormat, "#{").fails("lsp -s -F '#{?#{==:#D,%3},#{},}'", api.ErrFormat, "#{?#{==:#D,%3},#{},}").fails("lsp -a -F '#{e|/|:1,0}'", api.ErrFormat, "#{e|/|:1,0}")
	d.at(0).fails("lsp", api.ErrNowhere, "").fails("lsp -s", api.ErrNowhere, "").ok("lsp -a -F '#D'", "%1", "%2", "%5", "%3", "%4", "%1")
	empty(t).ok("lsp -a").fails("lsp -s", api.ErrNowhere, "")
}

// Two links of one window in one session are two places.
func TestE2ListEachLink(t *testing.T) {
	d := empty(t).ok("new").ok("splitw").ok("linkw -t 4")
	d.ok("lsw -F '#I#F'", "0-", "4*").ok("lsp -s -F '#I.#P#F'", "0.0-", "0.1-", "4.0*", "4.1*").ok("lsp -F '#I.#P'", "4.0", "4.1").ok("ls -F '#I #{session_windows}'", "4 2")
}

func TestE2ListCommands(t *testing.T) {
	d := empty(t)
	a := d.line("lscm")
	if a.Err != api.OK || len(a.Body) != 32 || !slices.IsSorted(a.Body) {
		t.Fatalf("%s", told(a))
	}
	for i, line := range a.Body {
		if line != verb.Usage(i+1) {
			t.Errorf("the line %d is %q", i, line)
		}
	}
	if a.Body[0] != "break-pane (breakp) [-Pd] [-n value] [-s value] [-t value]" || a.Body[31] != "unlink-window (unlinkw) [-k] [-t value]" {
		t.Errorf("%q", a.Body)
	}
}

func TestE2DisplayMessage(t *testing.T) {
	says := func(text string) api.Act { return api.Act{Kind: api.ActMessage, Text: text} }
	d := world(t)
	d.asks("display", 1, says("[work] 1:edit, pane 1")).ok("display -p", "[work] 1:edit, pane 1").ok("display -pt %4", "[play] 0:toy, pane 0").asks("display -t play:5", 1, says("[play] 5:sh, pane 0"))
	d.asks("display '#D at #S:#I'", 1, says("%3 at work:1")).ok("display -p -t 0 '#D at #S:#I'", "%2 at work:1").ok("display -p ''", "").asks("display ''", 1, says("")).ok(`display -p "a\nb\\"`, "a\nb\\")
	d.ok("display -p '#{pane_bytes}'", "0").write(3, "four").ok("display -p '#{pane_bytes} #{window_layout}'", "4 820e,80x24,0,0{40x24,0,0,2,39x24,41,0,3}").ok("display -p '#{nothing}'", "")
	d.fails("display -t nothing '#{'", api.ErrTarget, "nothing").fails("display '#{'", api.ErrFormat, "#{").fails("display -p '#{'", api.ErrFormat, "#{").fails("display '#{p1025:x}'", api.ErrLong, "#{p1025:x}").at(0).fails("display", api.ErrNowhere, "").fails("display -p '#{'", api.ErrNowhere, "")
}

func TestE2CapturePane(t *testing.T) {
	for text, want := range map[string][]string{
		"":               nil,
		"a":              {"a"},
		"a\n":            {"a"},
		"a\nb":           {"a", "b"},
		"a\nb\n":         {"a", "b"},
		"\n":             {""},
		"\n\n":           {"", ""},
		"\na":            {"", "a"},
		"a\n\nb\n\n":     {"a", "", "b", ""},
		"a\r\n\x00\xff%": {"a\r", "\x00\xff%"},
	} {
		d := world(t).write(3, text)
		d.ok("capturep", want...).ok("capturep -p", want...).ok("capturep -S 99", want...).ok("capturep -S "+decimal(len(want)), want...).ok("capturep -S 4611686018427387904", want...).ok("capturep -S 0")
		for n := 1; n < len(want); n++ {
			d.ok("capturep -pS "+decimal(n), want[len(want)-n:]...)
		}
	}
	// What is kept alone: the last 100 bytes.
	d := world(t).write(1, strings.Repeat("x", 60)+"\n"+strings.Repeat("y", 60)+"\n").write(2, "two").write(4, "four")
	d.ok("capturep -t %1", strings.Repeat("x", 38), strings.Repeat("y", 60)).ok("capturep -t %1 -S 1", strings.Repeat("y", 60)).ok("capturep").ok("capturep -t 0", "two").ok("capturep -pt play:toy", "four")
	d.fails("capturep -t nothing -S q", api.ErrTarget, "nothing").fails("capturep -S q", api.ErrValue, "q").fails("capturep -S -1", api.ErrValue, "-1").fails("capturep -S ''", api.ErrValue, "").at(0).fails("capturep -S q", api.ErrNowhere, "")
	// What was typed is not what was written.
	d.ok("send -t %4 keys").ok("capturep -t %4", "four")
	great := newDesk(t, api.Config{W: 80, H: 24, Tail: api.MaxTail}).ok("new").write(1, strings.Repeat("line\n", 20000))
	if a := Do(great.st, 1, great.command("capturep")); len(a.Body) != 13108 || a.Body[0] != "" || a.Body[13107] != "line" {
		t.Errorf("%d lines, the first %q", len(a.Body), a.Body[0])
	}
	great.tooLong("capturep", 1)
}
