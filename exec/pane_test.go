package exec

import (
	"strings"
	"testing"

	"mullion/api"
)

func TestE2SplitWindow(t *testing.T) {
	for line, want := range map[string]string{
		"splitw":            "80x24{40x24%2 39x24[39x12%3 39x11%5]} now 5 last 3",
		"splitw -v":         "80x24{40x24%2 39x24[39x12%3 39x11%5]} now 5 last 3",
		"splitw -h":         "80x24{40x24%2 19x24%3 19x24%5} now 5 last 3",
		"splitw -hv":        "80x24{40x24%2 19x24%3 19x24%5} now 5 last 3",
		"splitw -d":         "80x24{40x24%2 39x24[39x12%3 39x11%5]} now 3 last 2",
		"splitw -b":         "80x24{40x24%2 39x24[39x11%5 39x12%3]} now 5 last 3",
		"splitw -bh -l 5":   "80x24{40x24%2 5x24%5 33x24%3} now 5 last 3",
		"splitw -hdl99":     "80x24{40x24%2 1x24%3 37x24%5} now 3 last 2",
		"splitw -l 0":       "80x24{40x24%2 39x24[39x12%3 39x11%5]} now 5 last 3",
		"splitw -t 0 -l 7":  "80x24{40x24[40x16%2 40x7%5] 39x24%3} now 5 last 3",
		"splitw -t %2 -dbh": "80x24{19x24%5 20x24%2 39x24%3} now 3 last 2",
	} {
		world(t).ok(line).has("@2 edit " + want)
	}
	world(t).ok("splitw -P", "work:1.2").ok("splitw -bdP -t 0", "work:1.0").ok("splitw -hP -t %3", "work:1.3").has("@2 edit 80x24{40x24[40x11%6 40x12%2] 39x24[39x12{19x12%3 19x12%7} 39x11%5]} now 7 last 5")
	world(t).ok("splitw -P -t play:5", "play:5.1").ok("splitw -bP -t %1", "work:0.0").at(2).ok("splitw -P -t @1", "play:5.1")
	world(t).ok("resizep -Z").ok("splitw -d").has("@2 edit 80x24{40x24%2 39x24[39x12%3 39x11%5]} now 3 last 2")
	d := world(t)
	d.fails("splitw -t nothing -l q", api.ErrTarget, "nothing").fails("splitw -l q -P", api.ErrValue, "q").fails("splitw -l -1", api.ErrValue, "-1")
	d.ok("resizew -y 2").fails("splitw -P", api.ErrSmall, "split-window").at(0).fails("splitw -l q", api.ErrNowhere, "")
	filled(t, 1, 1, 32, 1).fails("splitw", api.ErrFull, "split-window")
}

func TestE2KillPane(t *testing.T) {
	world(t).ok("killp").has("@2 edit 80x24%2 now 2 last 0")
	world(t).ok("killp -t 0").has("@2 edit 80x24%3 now 3 last 0")
	world(t).ok("killp -t %4").has("$2 play 5@1 now 5 last -1", "!@3")
	world(t).ok("killp -a").has("@2 edit 80x24%3 now 3 last 0").ok("killp -a").has("@2 edit 80x24%3 now 3 last 0")
	world(t).ok("splitw").ok("splitw").ok("killp -a -t %2").has("@2 edit 80x24%2 now 2 last 0", "@1 sh 80x24%1 now 1 last 0")
	// Of panes whose ids do not rise in the order of the layout.
	d := world(t).ok("splitw -bt %2 -l 3").ok("splitw -bh -t %5 -l 3").ok("splitw -h -t %3").has("@2 edit 80x24{40x24[40x3{3x3%6 36x3%5} 40x20%2] 19x24%3 19x24%7} now 7 last 6")
	d.ok("killp -a -t %5").has("@2 edit 80x24%5 now 5 last 0")
	d = world(t).ok("killp -t 0 ; killp").has("$1 work 0@1 now 0 last -1", "!@2")
	d.fails("killp -t %2", api.ErrTarget, "%2").fails("killp -a -t 7", api.ErrTarget, "7").at(0).fails("killp", api.ErrNowhere, "").fails("killp -a", api.ErrNowhere, "")
	empty(t).ok("new").ok("killp").is("")
}

// grid has four panes in the client's window: 1 and 3 at the left, 2 and 4 at the right.
func grid(t *testing.T) *desk {
	t.Helper()
	return empty(t).ok("new").ok("splitw -h").ok("splitw -t %1").ok("splitw -t %2").has("@1 sh 80x24{40x24[40x12%1 40x11%3] 39x24[39x12%2 39x11%4]} now 4 last 3")
}

func TestE2SelectPane(t *testing.T) {
	const cells = "@1 sh 80x24{40x24[40x12%1 40x11%3] 39x24[39x12%2 39x11%4]}"
	for line, want := range map[string]string{
		"selectp":          " now 4 last 3",
		"selectp -t %1":    " now 1 last 4",
		"selectp -L":       " now 3 last 4",
		"selectp -R":       " now 3 last 4",
		"selectp -U":       " now 2 last 4",
		"selectp -D":       " now 2 last 4",
		"selectp -l":       " now 3 last 4",
		"selectp -Lt %3":   " now 4 last 3",
		"selectp -Rt %1":   " now 2 last 4",
		"selectp -Ut 0":    " now 3 last 4",
		"selectp -Dt %2":   " now 4 last 3",
		"selectp -lt %1":   " now 3 last 4",
		"selectp -LRUDlt0": " now 2 last 4",
		"selectp -RUDlt0":  " now 2 last 4",
		"selectp -UDlt0":   " now 3 last 4",
		"selectp -Dlt0":    " now 3 last 4",
	} {
		grid(t).ok(line).has(cells + want)
	}
	// L ahead of R, that ahead of U, that ahead of D, that ahead of l: in a row of three, where each means another pane.
	row := empty(t).ok("new").ok("splitw -h").ok("splitw -h").ok("selectp -t 0").ok("selectp -t 1").has("@1 sh 80x24{40x24%1 19x24%2 19x24%3} now 2 last 1")
	row.ok("selectp -RLl").has("@1 sh 80x24{40x24%1 19x24%2 19x24%3} now 1 last 2").ok("selectp -DURl").has("@1 sh 80x24{40x24%1 19x24%2 19x24%3} now 2 last 1")
	row.fails("selectp -UDl", api.ErrTarget, "U").fails("selectp -Dl", api.ErrTarget, "D").ok("selectp -l").has("@1 sh 80x24{40x24%1 19x24%2 19x24%3} now 1 last 2")
	grid(t).ok("resizep -Z").ok("selectp").has(cells + " now 4 last 3 zoom").ok("selectp -L").has(cells + " now 3 last 4")
	d := world(t)
	d.fails("selectp -U", api.ErrTarget, "U").fails("selectp -D -t %2", api.ErrTarget, "D").fails("selectp -L -t %1", api.ErrTarget, "L").fails("selectp -R -t %4", api.ErrTarget, "R").fails("selectp -l -t %1", api.ErrTarget, "l")
	d.fails("selectp -U -t nothing", api.ErrTarget, "nothing").fails("selectp -t %9", api.ErrTarget, "%9").fails("selectp -l -t play:0", api.ErrTarget, "l")
	d.at(0).fails("selectp", api.ErrNowhere, "").fails("selectp -L", api.ErrNowhere, "").fails("selectp -l", api.ErrNowhere, "").ok("selectp -lt %3").has("@2 edit 80x24{40x24%2 39x24%3} now 2 last 3")
}

func TestE2ResizePane(t *testing.T) {
	for line, want := range map[string]string{
		"resizep":                  "40x24[40x12%1 40x11%3] 39x24[39x12%2 39x11%4]} now 4 last 3",
		"resizep 5":                "40x24[40x12%1 40x11%3] 39x24[39x12%2 39x11%4]} now 4 last 3",
		"resizep -L":               "39x24[39x12%1 39x11%3] 40x24[40x12%2 40x11%4]} now 4 last 3",
		"resizep -L 5":             "35x24[35x12%1 35x11%3] 44x24[44x12%2 44x11%4]} now 4 last 3",
		"resizep -R 5":             "45x24[45x12%1 45x11%3] 34x24[34x12%2 34x11%4]} now 4 last 3",
		"resizep -U 5":             "40x24[40x12%1 40x11%3] 39x24[39x7%2 39x16%4]} now 4 last 3",
		"resizep -D 5":             "40x24[40x12%1 40x11%3] 39x24[39x17%2 39x6%4]} now 4 last 3",
		"resizep -R 0":             "40x24[40x12%1 40x11%3] 39x24[39x12%2 39x11%4]} now 4 last 3",
		"resizep -t %1 -D 2":       "40x24[40x14%1 40x9%3] 39x24[39x12%2 39x11%4]} now 4 last 3",
		"resizep -x 10":            "69x24[69x12%1 69x11%3] 10x24[10x12%2 10x11%4]} now 4 last 3",
		"resizep -y 10":            "40x24[40x12%1 40x11%3] 39x24[39x13%2 39x10%4]} now 4 last 3",
		"resizep -x 10 -y 3 -t 0":  "10x24[10x3%1 10x20%3] 69x24[69x12%2 69x11%4]} now 4 last 3",
		"resizep -U -x 10 5":       "69x24[69x12%1 69x11%3] 10x24[10x7%2 10x16%4]} now 4 last 3",
		"resizep -L -x 10 -y 10 5": "69x24[69x12%1 69x11%3] 10x24[10x13%2 10x10%4]} now 4 last 3",
		"resizep -L -y 1000":       "39x24[39x12%1 39x11%3] 40x24[40x1%2 40x22%4]} now 4 last 3",
		// L ahead of R, that ahead of U, that ahead of D.
		"resizep -LRUD 5": "35x24[35x12%1 35x11%3] 44x24[44x12%2 44x11%4]} now 4 last 3",
		"resizep -RUD 5":  "45x24[45x12%1 45x11%3] 34x24[34x12%2 34x11%4]} now 4 last 3",
		"resizep -UD 5":   "40x24[40x12%1 40x11%3] 39x24[39x7%2 39x16%4]} now 4 last 3",
		// -Z, and nothing else: the word and the other flags are not looked at.
		"resizep -Z":                     "40x24[40x12%1 40x11%3] 39x24[39x12%2 39x11%4]} now 4 last 3 zoom",
		"resizep -ZL -x 10 -y 10 5":      "40x24[40x12%1 40x11%3] 39x24[39x12%2 39x11%4]} now 4 last 3 zoom",
		"resizep -Zt %2 q":               "40x24[40x12%1 40x11%3] 39x24[39x12%2 39x11%4]} now 2 last 4 zoom",
		"resizep -Z -x q -y r":           "40x24[40x12%1 40x11%3] 39x24[39x12%2 39x11%4]} now 4 last 3 zoom",
		"resizep -Z ; resizep -Zt %1":    "40x24[40x12%1 40x11%3] 39x24[39x12%2 39x11%4]} now 4 last 3",
		"resizep -Z ; resizep":           "40x24[40x12%1 40x11%3] 39x24[39x12%2 39x11%4]} now 4 last 3 zoom",
		"resizep -Z ; resizep -R 0":      "40x24[40x12%1 40x11%3] 39x24[39x12%2 39x11%4]} now 4 last 3",
		"resizep -Z ; resizep -x 39":     "40x24[40x12%1 40x11%3] 39x24[39x12%2 39x11%4]} now 4 last 3",
		"resizep -L 4611686018427387904": "1x24[1x12%1 1x11%3] 78x24[78x12%2 78x11%4]} now 4 last 3",
		"resizep -R 4611686018427387904": "78x24[78x12%1 78x11%3] 1x24[1x12%2 1x11%4]} now 4 last 3",
	} {
		grid(t).ok(line).has("@1 sh 80x24{" + want)
	}
}

func TestE2ResizePaneErrors(t *testing.T) {
	d := grid(t)
	// The order: the target, the word, -x, -y, all of these ahead of what is done; then a push, a width, a height.
	d.fails("resizep -t %9 -L -x r -y s q", api.ErrTarget, "%9").fails("resizep -L -x r -y s q", api.ErrValue, "q").fails("resizep -L -x r -y s 5", api.ErrValue, "r").fails("resizep -L -x 5 -y s", api.ErrValue, "s")
	d.fails("resizep q", api.ErrValue, "q").fails("resizep ''", api.ErrValue, "").fails("resizep -R 05", api.ErrValue, "05").fails("resizep -x 0", api.ErrSide, "resize-pane").fails("resizep -y 1001", api.ErrSide, "resize-pane")
	d.fails("resizep -t %9 -Z", api.ErrTarget, "%9").at(0).fails("resizep q", api.ErrNowhere, "").fails("resizep -Z", api.ErrNowhere, "")
	// A later one fails: what was done ahead of it is undone.
	d.fails("resizep -L -x 0 5", api.ErrSide, "resize-pane").fails("resizep -L -y 0 5", api.ErrSide, "resize-pane").fails("resizep -x 10 -y 0", api.ErrSide, "resize-pane").fails("resizep -U -x 10 -y 1001 3", api.ErrSide, "resize-pane").fails("resizep -x 0 -y 5", api.ErrSide, "resize-pane")
	row := world(t)
	row.fails("resizep -U", api.ErrAlone, "resize-pane").fails("resizep -D -x 10 5", api.ErrAlone, "resize-pane").fails("resizep -y 10", api.ErrAlone, "resize-pane").fails("resizep -x 10 -y 10", api.ErrAlone, "resize-pane").fails("resizep -L -y 10 5", api.ErrAlone, "resize-pane").fails("resizep -L -x 10 -y 10 5", api.ErrAlone, "resize-pane")
	row.fails("resizep -x 1001 -y 10", api.ErrSide, "resize-pane").fails("resizep -U -x 1001", api.ErrAlone, "resize-pane").fails("resizep -t %1 -L", api.ErrAlone, "resize-pane").fails("resizep -Zt %1", api.ErrOnly, "resize-pane")
	// Undone is all: the zoom too, the logs, what was typed, and the ids go on as they would.
	row.ok("resizep -Z").ok("send -t %3 keys").write(3, "text").fails("resizep -L -y 10 5", api.ErrAlone, "resize-pane")
	row.has("@2 edit 80x24{40x24%2 39x24%3} now 3 last 2 zoom").typed(3, "keys").ok("capturep", "text")
	row.ok("splitw -P", "work:1.2").has("@2 edit 80x24{40x24%2 39x24[39x12%3 39x11%5]} now 5 last 3")
}

func TestE2SwapPane(t *testing.T) {
	world(t).ok("swapp -s 0").has("@2 edit 80x24{40x24%3 39x24%2} now 3 last 2")
	world(t).ok("swapp -t %2").has("@2 edit 80x24{40x24%3 39x24%2} now 3 last 2")
	world(t).ok("swapp").has("@2 edit 80x24{40x24%2 39x24%3} now 3 last 2")
	world(t).ok("swapp -s %4 -t %2").has("@2 edit 80x24{40x24%4 39x24%3} now 3 last 4", "@3 toy 80x24%2 now 2 last 0")
	world(t).ok("resizep -Z").ok("swapp -t 0").has("@2 edit 80x24{40x24%3 39x24%2} now 3 last 2")
	d := world(t)
	d.fails("swapp -s nothing -t none", api.ErrTarget, "nothing").fails("swapp -t none", api.ErrTarget, "none").at(0).fails("swapp", api.ErrNowhere, "").fails("swapp -s %1", api.ErrNowhere, "")
}

func TestE2BreakPane(t *testing.T) {
	world(t).ok("breakp").has("$1 work 0@1 1@2 2@4 now 2 last 1", "@2 edit 80x24%2 now 2 last 0", "@4 sh 80x24%3 now 3 last 0")
	world(t).ok("breakp -d").has("$1 work 0@1 1@2 2@4 now 1 last 0")
	world(t).ok("breakp -P", "work:2.0")
	world(t).ok("breakp -dP -s %2 -t play:7 -n own", "play:7.0").has("$2 play 0@3 5@1 7@4 now 0 last -1", "@2 edit 80x24%3 now 3 last 0", "@4 own 80x24%2 now 2 last 0")
	world(t).ok("breakp -Pt play: -n ''", "play:1.0").has("$2 play 0@3 1@4 5@1 now 1 last 0")
	d := world(t)
	d.fails("breakp -s nothing -t none:", api.ErrTarget, "nothing").fails("breakp -t none: -n a:b", api.ErrTarget, "none:").fails("breakp -n a:b -t 0", api.ErrName, "break-pane")
	d.fails("breakp -t 0 -s %1", api.ErrTaken, "break-pane").fails("breakp -s %1 -P", api.ErrOnly, "break-pane")
	d.at(0).fails("breakp", api.ErrNowhere, "").fails("breakp -s %3", api.ErrNowhere, "").fails("breakp -s %3 -t 8", api.ErrNowhere, "8").ok("breakp -Ps %3 -t work", "work:2.0")
	filled(t, 1, 16, 17, 16).fails("breakp -s 0 -t 0", api.ErrTaken, "break-pane").fails("breakp -s :0.0", api.ErrFull, "break-pane")
}

func TestE2JoinPane(t *testing.T) {
	for line, want := range map[string]string{
		"joinp -s %4":               "80x24{40x24%2 39x24[39x12%3 39x11%4]} now 4 last 3",
		"joinp -v -s %4":            "80x24{40x24%2 39x24[39x12%3 39x11%4]} now 4 last 3",
		"joinp -h -s %4":            "80x24{40x24%2 19x24%3 19x24%4} now 4 last 3",
		"joinp -hv -l 5 -s %4":      "80x24{40x24%2 33x24%3 5x24%4} now 4 last 3",
		"joinp -d -s %4":            "80x24{40x24%2 39x24[39x12%3 39x11%4]} now 3 last 2",
		"joinp -bd -s %4 -t %2":     "80x24{40x24[40x11%4 40x12%2] 39x24%3} now 3 last 2",
		"joinp -s %1 -t 0 -l 1":     "80x24{40x24[40x22%2 40x1%1] 39x24%3} now 1 last 3",
		"joinp -t %2":               "80x24[80x12%2 80x11%3] now 3 last 2",
		"joinp -d -s 0":             "80x24[80x12%3 80x11%2] now 3 last 0",
		"joinp -bh -s %2 -l 0":      "80x24{39x24%2 40x24%3} now 2 last 3",
		"resizep -Z;joinp -ds %4":   "80x24{40x24%2 39x24[39x12%3 39x11%4]} now 3 last 2",
		"joinp -s play:toy.0 -l 99": "80x24{40x24%2 39x24[39x1%3 39x22%4]} now 4 last 3",
	} {
		world(t).ok(line).has("@2 edit " + want)
	}
	world(t).ok("joinp -s %4").has("$2 play 5@1 now 5 last -1", "!@3")
	d := world(t)
	d.fails("joinp -s nothing -t none -l q", api.ErrTarget, "nothing").fails("joinp -t none -l q", api.ErrTarget, "none").fails("joinp -l q", api.ErrValue, "q").fails("joinp", api.ErrArg, "join-pane").fails("joinp -s %2 -t 0", api.ErrArg, "join-pane")
	d.ok("resizew -y 2").fails("joinp -s %4", api.ErrSmall, "join-pane").at(0).fails("joinp", api.ErrNowhere, "").fails("joinp -s %4 -l q", api.ErrNowhere, "")
}

func TestE2SendKeys(t *testing.T) {
	for line, want := range map[string]string{
		"send":                                  "",
		"send ''":                               "",
		"send a b c":                            "abc",
		"send 'a b' c":                          "a bc",
		"send Enter Space Tab Escape BSpace":    "\r \t\x1b\x7f",
		"send ls Enter":                         "ls\r",
		"send -l ls Enter C-a":                  "lsEnterC-a",
		"send -l Enter Space Tab Escape BSpace": "EnterSpaceTabEscapeBSpace",
		"send C-a C-b C-c C-d C-e C-f C-g C-h C-i": "\x01\x02\x03\x04\x05\x06\x07\x08\x09",
		"send C-j C-k C-l C-m C-n C-o C-p C-q C-r": "\x0a\x0b\x0c\x0d\x0e\x0f\x10\x11\x12",
		"send C-s C-t C-u C-v C-w C-x C-y C-z":     "\x13\x14\x15\x16\x17\x18\x19\x1a",
		"send enter ENTER Enterx xEnter 'Enter '":  "enterENTEREnterxxEnterEnter ",
		"send C-A C- C-aa c-a 'C-`' 'C-{' C-1 M-a": "C-AC-C-aac-aC-`C-{C-1M-a",
		"send -- -l -t Tab":                        "-l-t\t",
		`send "\000\377" '\' C-j`:                  "\x00\xff\\\n",
	} {
		world(t).ok(line).typed(3, want).typed(2, "").typed(1, "")
	}
	d := world(t).ok("send -t %1 one").ok("send -t play:toy two").ok("send -lt 0 three").typed(1, "one").typed(4, "two").typed(2, "three").typed(3, "")
	d.ok("send -t %1 more Enter").typed(1, "onemore\r").ok("send -t %1 "+strings.Repeat("x", 100)).typed(1, strings.Repeat("x", 100))
	d.fails("send -t nothing x", api.ErrTarget, "nothing").fails("send -lt %9 x", api.ErrTarget, "%9").at(0).fails("send x", api.ErrNowhere, "")
	// All words are typed at once, as many as a line may have.
	d.ok("send -t %4 "+strings.Repeat("y ", 61)).typed(4, "two"+strings.Repeat("y", 61))
}
