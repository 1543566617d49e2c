package exec

import (
	"strings"
	"testing"

	"mullion/api"
	"mullion/plan"
)

func TestE2NewWindow(t *testing.T) {
	world(t).ok("neww").has("$1 work 0@1 1@2 2@4 now 2 last 1", "@4 sh 80x24%5 now 5 last 0")
	world(t).ok("neww -d").has("$1 work 0@1 1@2 2@4 now 1 last 0")
	world(t).ok("neww -P", "work:2.0").ok("neww -dP -n own -t play:", "play:1.0").has("$2 play 0@3 1@5 5@1 now 0 last -1", "@5 own 80x24%6 now 6 last 0")
	world(t).ok("neww -Pt 9999", "work:9999.0").ok("neww -t play:7 -n '' -P", "play:7.0").has("$2 play 0@3 5@1 7@5 now 7 last 0", "@5 sh 80x24%6 now 6 last 0")
	// A new window has the configuration's size, whatever the others have.
	world(t).ok("resizew -x 9 -y 9").ok("neww").has("@4 sh 80x24%5 now 5 last 0")
	d := world(t)
	d.fails("neww -t nothing: -n a:b", api.ErrTarget, "nothing:").fails("neww -t 10000", api.ErrTarget, "10000").fails("neww -t %9", api.ErrTarget, "%9")
	d.fails("neww -t 1 -n a:b", api.ErrName, "new-window").fails("neww -n ' x'", api.ErrName, "new-window")
	d.fails("neww -t 1", api.ErrTaken, "new-window").fails("neww -t play:toy -P", api.ErrTaken, "new-window").fails("neww -t %1", api.ErrTaken, "new-window").fails("neww -t @3", api.ErrTaken, "new-window")
	d.at(0).fails("neww", api.ErrNowhere, "").fails("neww -t 3", api.ErrNowhere, "3").ok("neww -Pt work", "work:2.0")
	filled(t, 1, 16, 16, 16).fails("neww -t 0", api.ErrTaken, "new-window").fails("neww", api.ErrFull, "new-window")
	filled(t, 1, 1, 32, 1).fails("neww -d", api.ErrFull, "new-window")
	filled(t, 1, 1, 1, 32).fails("neww -P", api.ErrFull, "new-window")
}

func TestE2KillWindow(t *testing.T) {
	world(t).ok("killw").is("$1 work 0@1 now 0 last -1", "$2 play 0@3 5@1 now 0 last -1", "@1 sh 80x24%1 now 1 last 0", "@3 toy 80x24%4 now 4 last 0")
	world(t).ok("killw -t 0").is("$1 work 1@2 now 1 last -1", "$2 play 0@3 now 0 last -1", "@2 edit 80x24{40x24%2 39x24%3} now 3 last 2", "@3 toy 80x24%4 now 4 last 0")
	world(t).ok("killw -t %4").is("$1 work 0@1 1@2 now 1 last 0", "$2 play 5@1 now 5 last -1", "@1 sh 80x24%1 now 1 last 0", "@2 edit 80x24{40x24%2 39x24%3} now 3 last 2")
	// With -a: the other windows of that session; they are closed wherever they are linked.
	world(t).ok("killw -a").is("$1 work 1@2 now 1 last -1", "$2 play 0@3 now 0 last -1", "@2 edit 80x24{40x24%2 39x24%3} now 3 last 2", "@3 toy 80x24%4 now 4 last 0")
	world(t).ok("killw -a -t play:5").is("$1 work 0@1 1@2 now 1 last 0", "$2 play 5@1 now 5 last -1", "@1 sh 80x24%1 now 1 last 0", "@2 edit 80x24{40x24%2 39x24%3} now 3 last 2")
	world(t).ok("linkw -d -s :0 -t 7").ok("linkw -d -s :1 -t 8").ok("neww -d").ok("killw -at :0").has("$1 work 0@1 7@1 now 0 last -1", "!@2", "!@4")
	world(t).ok("linkw -d -s :0 -t 7").ok("linkw -d -s :1 -t 8").ok("neww -d").ok("killw -at :7").is(
		"$1 work 0@1 7@1 now 0 last -1", "$2 play 0@3 5@1 now 0 last -1", "@1 sh 80x24%1 now 1 last 0", "@3 toy 80x24%4 now 4 last 0")
	// By rising id: in another session it tells which index is current then.
	other := empty(t).ok("new -s a").ok("neww -d").ok("neww -d").ok("new -d -s b").ok("neww -d -t b:2").ok("linkw -ds @3 -t b:1").ok("linkw -ds @1 -t b:3").ok("selectw -t b:1").ok("selectw -t b:3")
	other.has("$1 a 0@1 1@2 2@3 now 0 last -1", "$2 b 0@4 1@3 2@5 3@1 now 3 last 1").ok("killw -a -t a:1").has("$1 a 1@2 now 1 last -1", "$2 b 0@4 2@5 now 0 last -1")
	d := empty(t).ok("new").ok("killw -a").is("$1 1 0@1 now 0 last -1", "@1 sh 80x24%1 now 1 last 0")
	d.fails("killw -t 9", api.ErrTarget, "9").fails("killw -a -t 9", api.ErrTarget, "9").at(2).fails("killw", api.ErrNowhere, "").fails("killw -a", api.ErrNowhere, "")
	d.ok("killw").is("")
}

func TestE2RenameWindow(t *testing.T) {
	world(t).ok("renamew other").has("@2 other 80x24{40x24%2 39x24%3} now 3 last 2")
	world(t).ok("renamew -t play:5 edit").has("@1 edit 80x24%1 now 1 last 0", "@2 edit 80x24{40x24%2 39x24%3} now 3 last 2")
	d := world(t)
	d.fails("renamew -t 9 a:b", api.ErrTarget, "9").fails("renamew a:b", api.ErrName, "rename-window").fails("renamew -t @1 ''", api.ErrName, "rename-window")
	d.ok("renamew -t %4 edge").ok("linkw -ds @3 -t 4").fails("renamew -t ed x", api.ErrMany, "ed").at(0).fails("renamew x", api.ErrNowhere, "")
}

func TestE2SelectWindow(t *testing.T) {
	d := world(t).ok("neww -d -t 4 -n third")
	d.ok("selectw -t 4").has("$1 work 0@1 1@2 4@4 now 4 last 1").ok("selectw -t third").has("$1 work 0@1 1@2 4@4 now 4 last 1")
	d.ok("selectw -l").has("$1 work 0@1 1@2 4@4 now 1 last 4").ok("selectw -l").has("$1 work 0@1 1@2 4@4 now 4 last 1")
	d.ok("selectw -n").has("$1 work 0@1 1@2 4@4 now 0 last 4").ok("selectw -n").has("$1 work 0@1 1@2 4@4 now 1 last 0")
	d.ok("selectw -p").has("$1 work 0@1 1@2 4@4 now 0 last 1").ok("selectw -p").has("$1 work 0@1 1@2 4@4 now 4 last 0")
	// -l ahead of -n, that ahead of -p.
	d.ok("selectw -lnp").has("$1 work 0@1 1@2 4@4 now 0 last 4").ok("selectw -np").has("$1 work 0@1 1@2 4@4 now 1 last 0").ok("selectw").has("$1 work 0@1 1@2 4@4 now 1 last 0")
	// With one of these -t is a session; the part is one of that session.
	d.ok("selectw -n -t play").has("$2 play 0@3 5@1 now 5 last 0", "$1 work 0@1 1@2 4@4 now 1 last 0").ok("selectw -l -t $2").has("$2 play 0@3 5@1 now 0 last 5")
	d.ok("selectw -pt p").has("$2 play 0@3 5@1 now 5 last 0").ok("selectw -nt =play:").has("$2 play 0@3 5@1 now 0 last 5")
	d.ok("selectw -t play:5").has("$2 play 0@3 5@1 now 5 last 0").ok("selectw -t %4").has("$2 play 0@3 5@1 now 0 last 5")
	d.at(2).ok("selectw -n").has("$2 play 0@3 5@1 now 5 last 0")
	d.ok("new -d -s one")
	d.fails("selectw -l -t one", api.ErrTarget, "!").ok("selectw -n -t one").ok("selectw -p -t one").has("$3 one 0@5 now 0 last -1")
	d.fails("selectw -l -t nothing", api.ErrTarget, "nothing").fails("selectw -n -t edit", api.ErrTarget, "edit").fails("selectw -t 9", api.ErrTarget, "9")
	d.at(0).fails("selectw", api.ErrNowhere, "").fails("selectw -l", api.ErrNowhere, "").fails("selectw -n", api.ErrNowhere, "").fails("selectw -p", api.ErrNowhere, "").ok("selectw -n -t work").has("$1 work 0@1 1@2 4@4 now 4 last 1")
	d.at(0).fails("selectw -l -t one", api.ErrTarget, "!")
}

func TestE2LinkWindow(t *testing.T) {
	world(t).ok("linkw").has("$1 work 0@1 1@2 2@2 now 2 last 1")
	world(t).ok("linkw -d").has("$1 work 0@1 1@2 2@2 now 1 last 0")
	world(t).ok("linkw -t 9 -s play:toy").has("$1 work 0@1 1@2 9@3 now 9 last 1", "$2 play 0@3 5@1 now 0 last -1")
	world(t).ok("linkw -t play: -s @1").has("$2 play 0@3 1@1 5@1 now 1 last 0")
	d := world(t)
	d.fails("linkw -s nothing -t nothing:", api.ErrTarget, "nothing").fails("linkw -s 0 -t none:", api.ErrTarget, "none:")
	d.fails("linkw -t 0", api.ErrTaken, "link-window").fails("linkw -d -s 0 -t @3", api.ErrTaken, "link-window")
	d.at(0).fails("linkw -t 8", api.ErrNowhere, "").fails("linkw -s @1 -t 8", api.ErrNowhere, "8").fails("linkw -s @1", api.ErrNowhere, "")
	filled(t, 1, 1, 1, 32).fails("linkw", api.ErrFull, "link-window")
}

func TestE2UnlinkWindow(t *testing.T) {
	world(t).ok("unlinkw -t 0").is("$1 work 1@2 now 1 last -1", "$2 play 0@3 5@1 now 0 last -1",
		"@1 sh 80x24%1 now 1 last 0", "@2 edit 80x24{40x24%2 39x24%3} now 3 last 2", "@3 toy 80x24%4 now 4 last 0")
	world(t).ok("unlinkw -k -t play:5").has("$2 play 0@3 now 0 last -1", "@1 sh 80x24%1 now 1 last 0")
	world(t).ok("unlinkw -k").is("$1 work 0@1 now 0 last -1", "$2 play 0@3 5@1 now 0 last -1", "@1 sh 80x24%1 now 1 last 0", "@3 toy 80x24%4 now 4 last 0")
	d := world(t)
	d.fails("unlinkw", api.ErrOnly, "unlink-window").fails("unlinkw -t toy", api.ErrTarget, "toy").fails("unlinkw -t play:toy", api.ErrOnly, "unlink-window").fails("unlinkw -k -t 9", api.ErrTarget, "9")
	d.at(0).fails("unlinkw", api.ErrNowhere, "").fails("unlinkw -k", api.ErrNowhere, "")
	// Two links in one session are two links; the last one goes with its session.
	d.ok("linkw -d -t 6").ok("unlinkw").has("$1 work 0@1 6@2 now 0 last -1").fails("unlinkw -t 6", api.ErrOnly, "unlink-window").ok("unlinkw -t 0").fails("unlinkw", api.ErrOnly, "unlink-window")
	d.ok("unlinkw -k").is("$2 play 0@3 5@1 now 0 last -1", "@1 sh 80x24%1 now 1 last 0", "@3 toy 80x24%4 now 4 last 0")
}

func TestE2MoveWindow(t *testing.T) {
	world(t).ok("movew -t 7").has("$1 work 0@1 7@2 now 7 last 0")
	world(t).ok("movew -d -t 7").has("$1 work 0@1 7@2 now 7 last 0")
	world(t).ok("movew -d -s 0 -t 7").has("$1 work 1@2 7@1 now 1 last 7")
	world(t).ok("movew -s 0 -t 7").has("$1 work 1@2 7@1 now 7 last 1")
	world(t).ok("movew").has("$1 work 0@1 2@2 now 2 last 0")
	world(t).ok("movew -s 0").has("$1 work 1@2 2@1 now 2 last 1")
	// A link that is moved onto itself: nothing but that it is chosen.
	world(t).ok("movew -s 0 -t 0").has("$1 work 0@1 1@2 now 0 last 1").ok("movew -d -s 1 -t 1").has("$1 work 0@1 1@2 now 0 last 1")
	world(t).ok("movew -t play:").is("$1 work 0@1 now 0 last -1", "$2 play 0@3 1@2 5@1 now 1 last 0",
		"@1 sh 80x24%1 now 1 last 0", "@2 edit 80x24{40x24%2 39x24%3} now 3 last 2", "@3 toy 80x24%4 now 4 last 0")
	world(t).ok("movew -d -t play:9").has("$2 play 0@3 5@1 9@2 now 0 last -1")
	// With its last link a session is closed, and the client stays in it.
	d := world(t).ok("movew -s 0 -t play:8").ok("movew -t play:9").is("$2 play 0@3 5@1 8@1 9@2 now 9 last 8",
		"@1 sh 80x24%1 now 1 last 0", "@2 edit 80x24{40x24%2 39x24%3} now 3 last 2", "@3 toy 80x24%4 now 4 last 0")
	d.fails("movew", api.ErrNowhere, "")
	d = world(t)
	d.fails("movew -s nothing -t nothing:", api.ErrTarget, "nothing").fails("movew -t none:", api.ErrTarget, "none:").fails("movew -t 0", api.ErrTaken, "move-window").fails("movew -d -s 0 -t play:5", api.ErrTaken, "move-window")
	d.at(0).fails("movew -t 8", api.ErrNowhere, "").fails("movew -s @1 -t 8", api.ErrNowhere, "8")
}

func TestE2SwapWindow(t *testing.T) {
	world(t).ok("swapw -s 0").has("$1 work 0@2 1@1 now 1 last 0")
	world(t).ok("swapw -t 0").has("$1 work 0@2 1@1 now 1 last 0")
	world(t).ok("swapw -s 0 -t play:toy").has("$1 work 0@3 1@2 now 1 last 0", "$2 play 0@1 5@1 now 0 last -1")
	world(t).ok("swapw").has("$1 work 0@1 1@2 now 1 last 0").ok("swapw -s play:5 -t work:1").has("$1 work 0@1 1@1 now 1 last 0", "$2 play 0@3 5@2 now 0 last -1")
	d := world(t)
	d.fails("swapw -s nothing -t none", api.ErrTarget, "nothing").fails("swapw -t none", api.ErrTarget, "none").at(0).fails("swapw", api.ErrNowhere, "").fails("swapw -s @1", api.ErrNowhere, "")
}

func TestE2ResizeWindow(t *testing.T) {
	world(t).ok("resizew -x 83 -y 10").has("@2 edit 83x10{42x10%2 40x10%3} now 3 last 2")
	world(t).ok("resizew -x 3").has("@2 edit 3x24{1x24%2 1x24%3} now 3 last 2")
	world(t).ok("resizew -y 1 -t play:5").has("@1 sh 80x1%1 now 1 last 0")
	world(t).ok("resizew").has("@2 edit 80x24{40x24%2 39x24%3} now 3 last 2")
	world(t).ok("resizep -Z").ok("resizew -x 1000 -y 1000").has("@2 edit 1000x1000{500x1000%2 499x1000%3} now 3 last 2 zoom")
	d := world(t)
	d.fails("resizew -t 9 -x q", api.ErrTarget, "9").fails("resizew -x q -y r", api.ErrValue, "q").fails("resizew -x 0 -y r", api.ErrValue, "r")
	d.fails("resizew -x 0", api.ErrSide, "resize-window").fails("resizew -y 1001", api.ErrSide, "resize-window").fails("resizew -x 2", api.ErrSmall, "resize-window")
	d.at(0).fails("resizew -x q", api.ErrNowhere, "")
}

func TestE2SelectLayout(t *testing.T) {
	d := world(t).ok("splitw -d").ok("splitw -d").ok("splitw -d")
	d.has("@2 edit 80x24{40x24%2 39x24[39x3%3 39x2%7 39x5%6 39x11%5]} now 3 last 2")
	d.ok("selectl even-horizontal").has("@2 edit 80x24{16x24%2 15x24%3 15x24%7 15x24%6 15x24%5} now 3 last 2")
	d.ok("selectl even-vertical").has("@2 edit 80x24[80x4%2 80x4%3 80x4%7 80x4%6 80x4%5] now 3 last 2")
	d.ok("selectl main-horizontal").has("@2 edit 80x24[80x12%2 80x11{20x11%3 19x11%7 19x11%6 19x11%5}] now 3 last 2")
	d.ok("selectl main-vertical").has("@2 edit 80x24{40x24%2 39x24[39x6%3 39x5%7 39x5%6 39x5%5]} now 3 last 2")
	d.ok("selectl tiled").has("@2 edit 80x24[80x8{40x8%2 39x8%3} 80x7{40x7%7 39x7%6} 80x7%5] now 3 last 2")
	d.ok("selectl main-vertical 60").has("@2 edit 80x24{60x24%2 19x24[19x6%3 19x5%7 19x5%6 19x5%5]} now 3 last 2")
	d.ok("selectl main-horizontal 5").has("@2 edit 80x24[80x5%2 80x18{20x18%3 19x18%7 19x18%6 19x18%5}] now 3 last 2")
	d.ok("resizep -Z").ok("selectl tiled 7").has("@2 edit 80x24[80x8{40x8%2 39x8%3} 80x7{40x7%7 39x7%6} 80x7%5] now 3 last 2")
	d.ok("selectl -t 0 tiled 0").has("@1 sh 80x24%1 now 1 last 0").ok("selectl -t 0 main-vertical 4611686018427387904")
	d.fails("selectl -t 9 tiled q", api.ErrTarget, "9").fails("selectl tiled q", api.ErrValue, "q").fails("selectl even-vertical ''", api.ErrValue, "").fails("selectl -t 0 main-vertical -1", api.ErrValue, "-1")
	d.ok("resizew -x 40 -y 9").fails("selectl even-vertical x", api.ErrValue, "x").ok("selectl even-vertical").ok("selectl tiled").ok("resizew -y 6").fails("selectl even-vertical", api.ErrSmall, "select-layout")
	d.at(0).fails("selectl tiled", api.ErrNowhere, "").fails("selectl nonsense", api.ErrNowhere, "").fails("selectl nonsense more", api.ErrNowhere, "")
}

// laidOut is the text of a row of so many panes; its panes are others than those of the window.
func laidOut(t *testing.T, w, h, panes int) string {
	t.Helper()
	d := newDesk(t, api.Config{W: w, H: h, Tail: 1}).ok("new")
	for i := 1; i < panes; i++ {
		d.ok("splitw -h -t :0.0").ok("selectl even-horizontal")
	}
	text, err := plan.Text(d.st.State().Windows[0].Cells)
	if err != api.OK {
		t.Fatal(err)
	}
	return text
}

func TestE2SelectLayoutByPlan(t *testing.T) {
	row, three, tall, single := laidOut(t, 80, 24, 2), laidOut(t, 80, 24, 3), laidOut(t, 80, 25, 2), laidOut(t, 80, 24, 1)
	d := world(t).ok("resizep -x 9").ok("resizep -Z").has("@2 edit 80x24{70x24%2 9x24%3} now 3 last 2 zoom")
	d.ok("selectl " + row).has("@2 edit 80x24{40x24%2 39x24%3} now 3 last 2")
	d.ok("selectl -t 0 " + single).has("@1 sh 80x24%1 now 1 last 0").ok("selectl -t %4 " + single)
	d.fails("selectl "+three, api.ErrLayout, "select-layout").fails("selectl "+single, api.ErrLayout, "select-layout").fails("selectl "+tall, api.ErrSide, "select-layout")
	// The order: the target, a second word, what is read, what is laid.
	d.fails("selectl -t 9 tile x", api.ErrTarget, "9").fails("selectl tile x", api.ErrCount, "select-layout").fails("selectl "+row+" 1", api.ErrCount, "select-layout")
	d.fails("selectl tile", api.ErrPlan, "tile").fails("selectl ''", api.ErrPlan, "").fails("selectl Tiled", api.ErrPlan, "Tiled").fails("selectl '' 1", api.ErrCount, "select-layout")
	d.fails("selectl 1"+row[1:], api.ErrSum, "1"+row[1:])
	text := "0000,80x24,0,0"
	d.fails("selectl "+text, api.ErrSum, text)
	body := "80x24,0,0{40x24,0,0,1,40x24,41,0,2}"
	d.fails("selectl "+sumOf(body)+body, api.ErrLayout, sumOf(body)+body)
	long := row + strings.Repeat("x", api.MaxPlan+1-len(row))
	d.fails("selectl "+long, api.ErrLong, long)
}

func sumOf(body string) string {
	const digits = "0123456789abcdef"
	n := plan.Sum(body)
	return string([]byte{digits[n>>12], digits[n>>8&15], digits[n>>4&15], digits[n&15], ','})
}
