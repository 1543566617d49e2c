package exec

import (
	"testing"

	"mullion/api"
)

func TestE2NewSession(t *testing.T) {
	world(t).asks("new", 3, goes(3)).has("$3 3 0@4 now 0 last -1", "@4 sh 80x24%5 now 5 last 0")
	world(t).asks("new -d", 1).has("$3 3 0@4 now 0 last -1")
	world(t).ok("new -P", "3:0.0")
	world(t).ok("new -dP -s x", "x:0.0").asks("display", 1, api.Act{Kind: api.ActMessage, Text: "[work] 1:edit, pane 1"})
	world(t).ok("new -d -s x -n y -x 10 -y 5 -P", "x:0.0").has("$3 x 0@4 now 0 last -1", "@4 y 10x5%5 now 5 last 0")
	world(t).ok("new -d -x 10").has("@4 sh 10x24%5 now 5 last 0")
	world(t).ok("new -d -y 1000").has("@4 sh 80x1000%5 now 5 last 0")
	world(t).ok("new -d -x 0 -y 0 -s '' -n ''").has("$3 3 0@4 now 0 last -1", "@4 sh 80x24%5 now 5 last 0")
	empty(t).ok("new -P", "1:0.0").is("$1 1 0@1 now 0 last -1", "@1 sh 80x24%1 now 1 last 0")
	empty(t).at(77).asks("new", 1, goes(1))
}

func TestE2NewSessionErrors(t *testing.T) {
	d := world(t)
	d.fails("new -x q -y r -s a:b", api.ErrValue, "q").fails("new -x 1 -y r -s a:b", api.ErrValue, "r").fails("new -y r -s work", api.ErrValue, "r")
	for _, bad := range []string{"''", "01", "-1", "+1", "1x", "4611686018427387905"} {
		value := bad
		if bad == "''" {
			value = ""
		}
		d.fails("new -x "+bad, api.ErrValue, value).fails("new -P -y "+bad, api.ErrValue, value)
	}
	d.fails("new -s a:b -x 1001", api.ErrName, "new-session").fails("new -n a:b -s work", api.ErrName, "new-session")
	d.fails("new -x 1001 -s work", api.ErrSide, "new-session").fails("new -y 4611686018427387904", api.ErrSide, "new-session")
	d.fails("new -s work", api.ErrTaken, "new-session").fails("new -d -s play -P", api.ErrTaken, "new-session")
	filled(t, 8, 8, 8, 8).fails("new -d", api.ErrFull, "new-session").fails("new -s 1", api.ErrFull, "new-session")
}

func TestE2KillSession(t *testing.T) {
	world(t).ok("kill-session -t play").is("$1 work 0@1 1@2 now 1 last 0", "@1 sh 80x24%1 now 1 last 0", "@2 edit 80x24{40x24%2 39x24%3} now 3 last 2")
	world(t).ok("kill-session").is("$2 play 0@3 5@1 now 0 last -1", "@1 sh 80x24%1 now 1 last 0", "@3 toy 80x24%4 now 4 last 0")
	world(t).ok("kill-session -a").is("$1 work 0@1 1@2 now 1 last 0", "@1 sh 80x24%1 now 1 last 0", "@2 edit 80x24{40x24%2 39x24%3} now 3 last 2")
	world(t).ok("kill-session -a -t play").is("$2 play 0@3 5@1 now 0 last -1", "@1 sh 80x24%1 now 1 last 0", "@3 toy 80x24%4 now 4 last 0")
	world(t).ok("new -d").ok("new -d").ok("kill-session -t 4 -a").is("$4 4 0@5 now 0 last -1", "@5 sh 80x24%6 now 6 last 0")
	empty(t).ok("new").ok("kill-session -a").is("$1 1 0@1 now 0 last -1", "@1 sh 80x24%1 now 1 last 0").ok("kill-session").is("")
	world(t).ok("kill-session -t play:5").has("!$2", "$1 work 0@1 1@2 now 1 last 0")
	d := world(t)
	d.fails("kill-session -t nothing", api.ErrTarget, "nothing").fails("kill-session -a -t play:9", api.ErrTarget, "play:9")
	d.ok("rename -t play walk").fails("kill-session -t w", api.ErrMany, "w").fails("kill-session -at w", api.ErrMany, "w")
	d.at(9).fails("kill-session", api.ErrNowhere, "").fails("kill-session -a", api.ErrNowhere, "")
}

func TestE2RenameSession(t *testing.T) {
	world(t).ok("rename other").has("$1 other 0@1 1@2 now 1 last 0", "$2 play 0@3 5@1 now 0 last -1")
	world(t).ok("rename -t play 'o t'").has("$1 work 0@1 1@2 now 1 last 0", "$2 o t 0@3 5@1 now 0 last -1")
	world(t).ok("rename work").has("$1 work 0@1 1@2 now 1 last 0")
	d := world(t)
	d.fails("rename -t nothing a:b", api.ErrTarget, "nothing").fails("rename a:b", api.ErrName, "rename-session").fails("rename ''", api.ErrName, "rename-session")
	d.fails("rename play", api.ErrTaken, "rename-session").fails("rename -t play work", api.ErrTaken, "rename-session")
	d.at(0).fails("rename x", api.ErrNowhere, "")
}

func TestE2HasSession(t *testing.T) {
	d := world(t)
	was := whole(d.st)
	d.ok("has").ok("has -t play").ok("has -t $1:").ok("has -t p")
	d.fails("has -t nothing", api.ErrTarget, "nothing").fails("has -t $3", api.ErrTarget, "$3").at(0).fails("has", api.ErrNowhere, "")
	empty(t).fails("has -t ''", api.ErrNowhere, "")
	if whole(d.st) != was {
		t.Error("it has changed")
	}
}

func TestE2SwitchClient(t *testing.T) {
	d := world(t).ok("new -d -s third")
	d.asks("switchc -n", 2, goes(2)).asks("switchc -n", 3, goes(3)).asks("switchc -n", 1, goes(1))
	d.asks("switchc -p", 3, goes(3)).asks("switchc -p", 2, goes(2)).asks("switchc -p", 1, goes(1))
	d.asks("switchc -t third", 3, goes(3)).asks("switchc -t third", 3).asks("switchc", 3).asks("switchc -t work:0", 1, goes(1))
	// -n ahead of -p, and both without a look at -t.
	d.asks("switchc -np -t nothing", 2, goes(2)).asks("switchc -p -t nothing", 1, goes(1))
	d.fails("switchc -t nothing", api.ErrTarget, "nothing").fails("switchc -t :9", api.ErrTarget, ":9")
	d.at(0).fails("switchc", api.ErrNowhere, "").fails("switchc -n", api.ErrNowhere, "").fails("switchc -p -t work", api.ErrNowhere, "")
	d.at(77).fails("switchc -np", api.ErrNowhere, "").asks("switchc -t play", 2, goes(2))
	d.at(-1).asks("switchc -t work", 1, goes(1))
	// The next id, not the next place: 2 and 3 are gone; and round to itself, where there is no other.
	d.ok("new -d -s fourth").ok("kill-session -t play").ok("kill-session -t third")
	d.at(1).asks("switchc -n", 4, goes(4)).asks("switchc -n", 1, goes(1)).asks("switchc -p", 4, goes(4))
	d.ok("kill-session -t 'work'").at(4).asks("switchc -n", 4).asks("switchc -p", 4)
	empty(t).fails("switchc -n", api.ErrNowhere, "").fails("switchc", api.ErrNowhere, "")
}

func TestE2DetachAndKillServer(t *testing.T) {
	detach, kill := api.Act{Kind: api.ActDetach}, api.Act{Kind: api.ActKill}
	d := world(t)
	was := whole(d.st)
	d.asks("detach", 1, detach).at(0).asks("detach-client", 0, detach)
	if whole(d.st) != was {
		t.Error("it has changed")
	}
	d.asks("kill-server", 1, kill).is("").asks("kill-server", 1, kill).asks("detach ; kill-server ; detach", 1, detach, kill, detach)
	d.ok("new -P", "3:0.0").is("$3 3 0@4 now 0 last -1", "@4 sh 80x24%5 now 5 last 0")
	empty(t).at(5).asks("kill-server", 5, kill)
}
