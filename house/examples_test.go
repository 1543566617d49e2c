package house

import (
	"testing"

	"mullion/api"
)

// example is one of DOC.md's ten examples of the whole.
type example struct{ name, script, want string }

var examples = []example{
	{"A server that nothing comes to but the clock",
		"server 80 24 100\n" +
			"tick\n",
		"0: ok\n" +
			"server, tick 1\n",
	},
	{"A client makes a session",
		"server 80 24 100\n" +
			"attach 1 1000\n" +
			"input 1 new -s work\\012\n" +
			"drain 1 999\n",
		"0: ok\n" +
			"1: ok\n" +
			"2: ok, 258 bytes\n" +
			"server, tick 0\n" +
			"  session $1 work current 0 last - links 0:@1\n" +
			"  window @1 sh active %1 last - whole b25e,80x24,0,0,1\n" +
			"  pane %1 0..0 typed \n" +
			"client 1 from entry 0\n" +
			"  in $1\n" +
			"  session $1 work current 0 last - links 0:@1\n" +
			"  window @1 sh active %1 last - whole b25e,80x24,0,0,1\n" +
			"  feed %1 0..0 bytes \n" +
			"  reply 0 at 0 good\n" +
			"  reply 1 at 0 good\n" +
			"  agrees\n",
	},
	{"A window is split and its panes are listed",
		"server 80 24 100\n" +
			"attach 1 1000\n" +
			"input 1 new -s work\\012splitw -h\\012lsp\\012\n" +
			"drain 1 9999\n",
		"0: ok\n" +
			"1: ok\n" +
			"2: ok, 487 bytes\n" +
			"server, tick 0\n" +
			"  session $1 work current 0 last - links 0:@1\n" +
			"  window @1 sh active %2 last %1 whole 020a,80x24,0,0{40x24,0,0,1,39x24,41,0,2}\n" +
			"  pane %1 0..0 typed \n" +
			"  pane %2 0..0 typed \n" +
			"client 1 from entry 0\n" +
			"  in $1\n" +
			"  session $1 work current 0 last - links 0:@1\n" +
			"  window @1 sh active %2 last - whole 020a,80x24,0,0{40x24,0,0,1,39x24,41,0,2}\n" +
			"  feed %1 0..0 bytes \n" +
			"  feed %2 0..0 bytes \n" +
			"  reply 0 at 0 good\n" +
			"  reply 1 at 0 good\n" +
			"  reply 2 at 0 good\n" +
			"  reply 3 at 0 good\n" +
			"    | 0: [40x24] %1\n" +
			"    | 1: [39x24] %2 (active)\n" +
			"  agrees\n",
	},
	{"The commands ahead of one that fails are done, those behind it not",
		"server 80 24 100\n" +
			"attach 1 1000\n" +
			"input 1 new -s work\\012renamew x ; killp -t %9 ; renamew y\\012\n" +
			"drain 1 9999\n",
		"0: ok\n" +
			"1: ok\n" +
			"2: ok, 319 bytes\n" +
			"server, tick 0\n" +
			"  session $1 work current 0 last - links 0:@1\n" +
			"  window @1 x active %1 last - whole b25e,80x24,0,0,1\n" +
			"  pane %1 0..0 typed \n" +
			"client 1 from entry 0\n" +
			"  in $1\n" +
			"  session $1 work current 0 last - links 0:@1\n" +
			"  window @1 x active %1 last - whole b25e,80x24,0,0,1\n" +
			"  feed %1 0..0 bytes \n" +
			"  reply 0 at 0 good\n" +
			"  reply 1 at 0 good\n" +
			"  reply 2 at 0 bad\n" +
			"    | not found: %9\n" +
			"  agrees\n",
	},
	{"A pane writes what looks like a guard",
		"server 80 24 100\n" +
			"attach 1 1000\n" +
			"input 1 new -s w\\012\n" +
			"drain 1 9999\n" +
			"output 1 a\\012%end 0 1 1\\012\n" +
			"drain 1 9999\n",
		"0: ok\n" +
			"1: ok\n" +
			"2: ok, 252 bytes\n" +
			"3: ok\n" +
			"4: ok, 31 bytes\n" +
			"server, tick 0\n" +
			"  session $1 w current 0 last - links 0:@1\n" +
			"  window @1 sh active %1 last - whole b25e,80x24,0,0,1\n" +
			"  pane %1 0..13 typed \n" +
			"client 1 from entry 0\n" +
			"  in $1\n" +
			"  session $1 w current 0 last - links 0:@1\n" +
			"  window @1 sh active %1 last - whole b25e,80x24,0,0,1\n" +
			"  feed %1 0..13 bytes a\\012%end 0 1 1\\012\n" +
			"  reply 0 at 0 good\n" +
			"  reply 1 at 0 good\n" +
			"  agrees\n",
	},
	{"A limit of 30: the second output does not fit: the pane is paused; it goes on with a gap noted, and is paused anew, since the third one does not fit beside the block",
		"server 80 24 100\n" +
			"attach 1 30\n" +
			"input 1 new -s w\\012\n" +
			"drain 1 9999\n" +
			"output 1 hello\n" +
			"output 1 lost\n" +
			"drain 1 9999\n" +
			"input 1 refresh -A %1:continue\\012\n" +
			"output 1 z\n" +
			"drain 1 9999\n",
		"0: ok\n" +
			"1: ok\n" +
			"2: ok, 252 bytes\n" +
			"3: ok\n" +
			"4: ok\n" +
			"5: ok, 29 bytes\n" +
			"6: ok\n" +
			"7: ok\n" +
			"8: ok, 51 bytes\n" +
			"server, tick 0\n" +
			"  session $1 w current 0 last - links 0:@1\n" +
			"  window @1 sh active %1 last - whole b25e,80x24,0,0,1\n" +
			"  pane %1 0..10 typed \n" +
			"client 1 from entry 0\n" +
			"  in $1\n" +
			"  session $1 w current 0 last - links 0:@1\n" +
			"  window @1 sh active %1 last - whole b25e,80x24,0,0,1\n" +
			"  feed %1 0..9 paused gap 5..9 bytes hello\n" +
			"  reply 0 at 0 good\n" +
			"  reply 1 at 0 good\n" +
			"  reply 2 at 0 good\n" +
			"  agrees\n",
	},
	{"A subscription: it is told once, since nothing has changed at the second tick",
		"server 80 24 100\n" +
			"attach 1 1000\n" +
			"input 1 new -s w\\012refresh -B w:%*:#{pane_bytes}\\012\n" +
			"output 1 abc\n" +
			"tick\n" +
			"tick\n" +
			"drain 1 9999\n",
		"0: ok\n" +
			"1: ok\n" +
			"2: ok\n" +
			"3: ok\n" +
			"4: ok\n" +
			"5: ok, 330 bytes\n" +
			"server, tick 2\n" +
			"  session $1 w current 0 last - links 0:@1\n" +
			"  window @1 sh active %1 last - whole b25e,80x24,0,0,1\n" +
			"  pane %1 0..3 typed \n" +
			"client 1 from entry 0\n" +
			"  in $1\n" +
			"  session $1 w current 0 last - links 0:@1\n" +
			"  window @1 sh active %1 last - whole b25e,80x24,0,0,1\n" +
			"  feed %1 0..3 bytes abc\n" +
			"  reply 0 at 0 good\n" +
			"  reply 1 at 0 good\n" +
			"  reply 2 at 0 good\n" +
			"  watch %subscription-changed w $1 @1 0 %1 : 3\n" +
			"  agrees\n",
	},
	{"A client detaches itself; another one has never drained",
		"server 80 24 100\n" +
			"attach 1 1000\n" +
			"attach 2 1000\n" +
			"input 1 new -s w ; detach\\012\n" +
			"drain 1 9999\n",
		"0: ok\n" +
			"1: ok\n" +
			"2: ok\n" +
			"3: ok, 267 bytes\n" +
			"server, tick 0\n" +
			"  session $1 w current 0 last - links 0:@1\n" +
			"  window @1 sh active %1 last - whole b25e,80x24,0,0,1\n" +
			"  pane %1 0..0 typed \n" +
			"client 1 from entry 0\n" +
			"  in $1\n" +
			"  session $1 w current 0 last - links 0:@1\n" +
			"  window @1 sh active %1 last - whole b25e,80x24,0,0,1\n" +
			"  feed %1 0..0 bytes \n" +
			"  reply 0 at 0 good\n" +
			"  reply 1 at 0 good\n" +
			"  ended detached\n" +
			"  gone\n" +
			"client 2 from entry 1\n" +
			"  in -\n" +
			"  behind\n",
	},
	{"The server is ended",
		"server 80 24 100\n" +
			"attach 1 1000\n" +
			"input 1 new -s w\\012kill-server\\012\n" +
			"drain 1 9999\n",
		"0: ok\n" +
			"1: ok\n" +
			"2: ok, 346 bytes\n" +
			"server, tick 0\n" +
			"client 1 from entry 0\n" +
			"  in $1\n" +
			"  reply 0 at 0 good\n" +
			"  reply 1 at 0 good\n" +
			"  reply 2 at 0 good\n" +
			"  ended server exited\n" +
			"  gone\n",
	},
	{"Errors",
		"server 80 24 100\n" +
			"attach 5 1\n" +
			"drain 1 1\n" +
			"output 3 x\n",
		"0: error 160\n" +
			"1: error 160\n" +
			"2: error 42\n" +
			"server, tick 0\n",
	},
}

func TestP185ExamplesOfTheWhole(t *testing.T) {
	for _, x := range examples {
		if got, n, err := Run(x.script); got != x.want || n != 0 || err != api.OK {
			t.Errorf("%s: line %d, error %d:\n%s\nand not\n%s", x.name, n, err, got, x.want)
		}
	}
}
