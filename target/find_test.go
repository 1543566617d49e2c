package target

import (
	"math"
	"strings"
	"testing"

	"mullion/api"
)

func TestT2Examples(t *testing.T) {
	f := finder{t, example(), 1}
	f.means("", api.MeanPane, place(1, 2, 2, 3))
	f.means("%1", api.MeanPane, place(1, 0, 1, 1))
	finder{t, example(), 2}.means("%1", api.MeanPane, place(2, 0, 1, 1))
	f.fails("%9", api.MeanPane, api.ErrTarget)

	f.fails("w:", api.MeanSession, api.ErrMany)
	f.means("wo", api.MeanSession, place(1, 2, 2, 3))
	f.fails("=w", api.MeanSession, api.ErrTarget)
	f.fails("w*k", api.MeanSession, api.ErrMany)
	f.means("$2:", api.MeanSession, place(2, 0, 1, 1))

	f.means("0", api.MeanWindow, place(1, 0, 1, 1))
	f.means("ed", api.MeanWindow, place(1, 2, 2, 3))
	f.means("!", api.MeanWindow, place(1, 0, 1, 1))
	f.means("+", api.MeanWindow, place(1, 0, 1, 1))
	f.means("-3", api.MeanWindow, place(1, 0, 1, 1))
	f.means("walk", api.MeanWindow, place(2, 0, 1, 1))
	f.means(":^", api.MeanWindow, place(1, 0, 1, 1))

	f.means("0", api.MeanPane, place(1, 2, 2, 2))
	f.means("edit.1", api.MeanPane, place(1, 2, 2, 3))
	f.means("sh", api.MeanPane, place(1, 0, 1, 1))
	f.means("walk", api.MeanPane, place(2, 0, 1, 1))
	f.means("!", api.MeanPane, place(1, 2, 2, 2))
	f.fails("nothing", api.MeanPane, api.ErrTarget)

	none := finder{t, example(), 9}
	none.fails("", api.MeanPane, api.ErrNowhere)
	none.fails("sh", api.MeanPane, api.ErrTarget)
	none.means("work:", api.MeanPane, place(1, 2, 2, 3))

	f.means("", api.MeanIndex, place(1, -1, 0, 0))
	f.means("7", api.MeanIndex, place(1, 7, 0, 0))
	f.means("0", api.MeanIndex, place(1, 0, 1, 1))
	f.means("walk:", api.MeanIndex, place(2, -1, 0, 0))
	f.means("walk:3", api.MeanIndex, place(2, 3, 0, 0))
	f.means("walk", api.MeanIndex, place(2, -1, 0, 0))
	f.means("work:sh", api.MeanIndex, place(1, 0, 1, 1))
}

func TestT2NoStateAndNoMean(t *testing.T) {
	noMeans := []int{0, -1, 5, 6, math.MinInt, math.MaxInt}
	texts := []string{"", "%1", "@1", "work:", "nothing", "work", "0", ":"}
	for _, text := range texts {
		for _, mean := range noMeans {
			finder{t, example(), 1}.fails(text, mean, api.ErrArg)
			finder{t, api.State{}, 1}.fails(text, mean, api.ErrArg)
		}
		for _, s := range noStates() {
			for _, mean := range append(noMeans, allMeans()...) { // no state comes first
				finder{t, s, 1}.fails(text, mean, api.ErrState)
			}
		}
	}
}

func TestT2StateWithoutAnything(t *testing.T) {
	f := finder{t, api.State{}, 1}
	for _, mean := range allMeans() {
		for _, text := range []string{"", ":", ":0", ":x"} {
			f.fails(text, mean, api.ErrNowhere)
		}
		for _, text := range []string{"%1", "@1", "$1", "$1:", "x", "x:", "*", "*:0", "+", "!", "^", "="} {
			f.fails(text, mean, api.ErrTarget)
		}
	}
	f.fails("0", api.MeanSession, api.ErrTarget)
	f.fails("0", api.MeanIndex, api.ErrNowhere)
	f.fails(".0", api.MeanPane, api.ErrNowhere)
}

func TestT2EmptyText(t *testing.T) {
	for here, want := range map[int]api.Place{3: place(3, 4, 2, 4), 4: place(4, 9, 8, 7), 8: place(8, 0, 9, 20), 10: place(10, 6, 11, 30)} {
		f := finder{t, rich(), here}
		for _, mean := range []int{api.MeanSession, api.MeanWindow, api.MeanPane} {
			f.means("", mean, want)
			f.means(":", mean, want)
		}
		f.means(".", api.MeanPane, want)
		f.means(":.", api.MeanPane, want)
	}
	for _, here := range []int{0, -1, 1, 9, 99, math.MinInt, math.MaxInt} {
		f := finder{t, rich(), here}
		for _, mean := range allMeans() {
			f.fails("", mean, api.ErrNowhere)
			f.fails(":", mean, api.ErrNowhere)
		}
	}
}

func TestT2Ids(t *testing.T) {
	s := rich()
	for _, mean := range allMeans() {
		finder{t, s, 3}.means("%1", mean, place(3, 4, 2, 1)) // not the active one
		finder{t, s, 8}.means("%1", mean, place(8, 5, 2, 1))
		finder{t, s, 10}.means("%1", mean, place(3, 4, 2, 1))
		finder{t, s, 3}.means("%5", mean, place(3, 1, 5, 5))
		finder{t, s, 0}.means("%30", mean, place(10, 6, 11, 30))
		finder{t, s, 3}.means("@2", mean, place(3, 4, 2, 4))
		finder{t, s, 8}.means("@2", mean, place(8, 5, 2, 4))
		finder{t, s, 4}.means("@5", mean, place(3, 1, 5, 6))
		finder{t, s, 4}.means("@9", mean, place(8, 0, 9, 20))
		finder{t, s, 77}.means("@11", mean, place(10, 6, 11, 30))
		for _, text := range []string{"%2", "%31", "%4611686018427387904", "@1", "@3", "@12", "@4611686018427387904"} {
			finder{t, s, 3}.fails(text, mean, api.ErrTarget)
			finder{t, s, 0}.fails(text, mean, api.ErrTarget)
		}
	}
}

// A text that makes no id is a text like any other.
func TestT2NoIds(t *testing.T) {
	for _, mean := range allMeans() {
		for _, text := range []string{"%", "@", "%0", "@0", "%01", "@02", "%-1", "%+1", "%x", "@x", "% 1", "%1 ", "%%1", "@@2", "%4611686018427387905", "@99999999999999999999", "%*", "@*", "@2x", "%1,", "=%1", "=@2"} {
			finder{t, rich(), 3}.fails(text, mean, api.ErrTarget)
			finder{t, rich(), 0}.fails(text, mean, api.ErrTarget)
		}
		// Ahead of a colon stands a session part, and no id of a pane or a window is one.
		for _, text := range []string{"%1:", "@2:", "%1:0", "@2:^", "%1:.0"} {
			finder{t, rich(), 3}.fails(text, mean, api.ErrTarget)
		}
	}
	f := finder{t, rich(), 3}
	f.fails("%1.0", api.MeanPane, api.ErrTarget)
	f.means("@5.0", api.MeanPane, place(3, 1, 5, 6))
	f.means(":@5", api.MeanIndex, place(3, 1, 5, 6))
	f.means(":.%1", api.MeanPane, place(3, 4, 2, 1))
}

func TestT2WithColon(t *testing.T) {
	f := finder{t, rich(), 3}
	for _, mean := range []int{api.MeanSession, api.MeanWindow, api.MeanPane} {
		f.means(":", mean, place(3, 4, 2, 4))
		f.means("$8:", mean, place(8, 0, 9, 20))
		f.means("=w*:3", mean, place(8, 3, 8, 7))
		f.means(":lo", mean, place(3, 9, 8, 7))
		f.means(":9999", mean, place(3, 9999, 5, 6))
		f.means("$8:log", mean, place(8, 5, 2, 4))
		f.fails("$5:", mean, api.ErrTarget)
		f.fails("$8:6", mean, api.ErrTarget)
		f.fails("work:6", mean, api.ErrTarget)
		f.fails(":sh", mean, api.ErrMany)
		f.fails("nothing:sh", mean, api.ErrTarget) // the session part comes first
		f.fails("wor:6", mean, api.ErrMany)
		finder{t, rich(), 5}.fails(":6", mean, api.ErrNowhere)
		finder{t, rich(), 5}.fails(":sh", mean, api.ErrNowhere)
		finder{t, rich(), 5}.means("7:", mean, place(10, 6, 11, 30))
	}
}

func TestT2DotBehindColon(t *testing.T) {
	f := finder{t, rich(), 3}
	f.means(":log.0", api.MeanPane, place(3, 4, 2, 3))
	f.means("$8:log.3", api.MeanPane, place(8, 5, 2, 12))
	f.means("$8:.1", api.MeanPane, place(8, 0, 9, 21))
	f.means("$8:.", api.MeanPane, place(8, 0, 9, 20))
	f.means("$8:log.", api.MeanPane, place(8, 5, 2, 4))
	f.means(":.!", api.MeanPane, place(3, 4, 2, 3))
	f.fails(":^.!", api.MeanPane, api.ErrTarget)
	f.fails("$8:log.4", api.MeanPane, api.ErrTarget)
	f.fails(":log.0.0", api.MeanPane, api.ErrTarget) // cut at the first dot
	f.fails(":log..0", api.MeanPane, api.ErrTarget)
	f.fails("$8:6.0", api.MeanPane, api.ErrTarget)
	f.fails(":sh.9", api.MeanPane, api.ErrMany)
	f.fails("wor:log.9", api.MeanPane, api.ErrMany)
	for _, mean := range []int{api.MeanSession, api.MeanWindow, api.MeanIndex} {
		f.fails(":log.0", mean, api.ErrTarget) // the dot belongs to the window part
		f.fails(":.0", mean, api.ErrTarget)
		f.means(":[.l]og", mean, place(3, 4, 2, 4))
	}
	f.fails(":[.l]og", api.MeanPane, api.ErrTarget)
}

func TestT2SecondColon(t *testing.T) {
	f := finder{t, rich(), 3}
	for _, mean := range allMeans() {
		for _, text := range []string{"::", "work::", "=work:log:", ":log:0", ":4:", "::4"} {
			f.fails(text, mean, api.ErrTarget)
		}
		f.means("=work:[:l]og", mean, place(3, 4, 2, 4)) // it belongs to the window part
		f.fails("[:w]ork:log", mean, api.ErrTarget)      // cut at the first one, whatever stands around it
	}
	f.fails(":log.:", api.MeanPane, api.ErrTarget)
	f.fails(":log.0:", api.MeanPane, api.ErrTarget)
	f.means(":[:l]og.0", api.MeanPane, place(3, 4, 2, 3))
}

// A session alone, as such: what stands behind it is nothing.
func TestT2SessionWithoutColon(t *testing.T) {
	f := finder{t, rich(), 8}
	f.means("work", api.MeanSession, place(3, 4, 2, 4))
	f.means("$3", api.MeanSession, place(3, 4, 2, 4))
	f.means("7", api.MeanSession, place(10, 6, 11, 30))
	f.means("w*", api.MeanSession, place(8, 0, 9, 20))
	f.fails("wor", api.MeanSession, api.ErrMany)
	finder{t, rich(), 0}.means("=work 2", api.MeanSession, place(4, 9, 8, 7))
	// A window's name, an index or a step mean no session.
	for _, text := range []string{"log", "lo", "0", "5", "^", "$", "!", "+", "-", "log.0", "work.", ".0", ".", "{left-of}"} {
		f.fails(text, api.MeanSession, api.ErrTarget)
	}
}

func TestT2WindowWithoutColon(t *testing.T) {
	f := finder{t, rich(), 8}
	f.means("log", api.MeanWindow, place(8, 5, 2, 4)) // the client's session first
	f.means("3", api.MeanWindow, place(8, 3, 8, 7))
	f.means("4", api.MeanWindow, place(8, 0, 9, 20)) // the name 4
	f.means("work", api.MeanWindow, place(3, 4, 2, 4))
	f.means("$4", api.MeanWindow, place(4, 9, 8, 7))
	f.means("$", api.MeanWindow, place(8, 5, 2, 4))
	f.means("7", api.MeanWindow, place(10, 6, 11, 30)) // neither an index nor a window here
	finder{t, rich(), 3}.means("7", api.MeanWindow, place(3, 7, 5, 6))
	f.fails("l*", api.MeanWindow, api.ErrMany)
	f.fails("wor", api.MeanWindow, api.ErrMany)
	f.fails("sh", api.MeanWindow, api.ErrTarget) // it stands in another session
	f.fails("log.0", api.MeanWindow, api.ErrTarget)
	f.fails(".", api.MeanWindow, api.ErrTarget)
}

func TestT2WindowInNoSession(t *testing.T) {
	f := finder{t, rich(), 5}
	f.means("work", api.MeanWindow, place(3, 4, 2, 4))
	f.means("7", api.MeanWindow, place(10, 6, 11, 30))
	f.means("$10", api.MeanWindow, place(10, 6, 11, 30))
	f.fails("wor", api.MeanWindow, api.ErrMany)
	for _, text := range []string{"log", "0", "9", "^", "$", "!", "+", "-", "lo*", "=log", "log."} {
		f.fails(text, api.MeanWindow, api.ErrTarget)
	}
}

// Too many windows are the answer, though the text would mean one session.
func TestT2ManyAtOnce(t *testing.T) {
	s := state(
		session(1, "sh", 0, -1, link(0, 1), link(1, 2), link(2, 3)),
		session(2, "shell", 0, -1, link(0, 3)),
		session(3, "edit", 0, -1, link(0, 3)),
		window(1, "sh", 1, 0, 1),
		window(2, "sh", 2, 0, 2),
		window(3, "x", 3, 0, 3),
	)
	f := finder{t, s, 1}
	for _, mean := range []int{api.MeanWindow, api.MeanPane} {
		f.fails("sh", mean, api.ErrMany)
		f.fails("=sh", mean, api.ErrMany)
		f.fails("s", mean, api.ErrMany)
		f.fails("*", mean, api.ErrMany)
		f.means("sh*l", mean, place(2, 0, 3, 3))
		f.means("shell", mean, place(2, 0, 3, 3))
		f.means("sh:", mean, place(1, 0, 1, 1))
		finder{t, s, 3}.means("sh", mean, place(1, 0, 1, 1))
		finder{t, s, 3}.fails("s", mean, api.ErrMany)
	}
	f.means("sh", api.MeanSession, place(1, 0, 1, 1))
	f.means("sh", api.MeanIndex, place(1, -1, 0, 0))
}

func TestT2PaneWithDot(t *testing.T) {
	f := finder{t, rich(), 8}
	f.means("log.0", api.MeanPane, place(8, 5, 2, 3))
	f.means("log.", api.MeanPane, place(8, 5, 2, 4))
	f.means(".2", api.MeanPane, place(8, 0, 9, 22))
	f.means(".", api.MeanPane, place(8, 0, 9, 20))
	f.means("3.%7", api.MeanPane, place(8, 3, 8, 7))
	f.means("!.+", api.MeanPane, place(8, 5, 2, 1))
	f.fails("log.4", api.MeanPane, api.ErrTarget)
	f.fails("log.x", api.MeanPane, api.ErrTarget)
	f.fails("nothing.0", api.MeanPane, api.ErrTarget)
	f.fails("work.0", api.MeanPane, api.ErrTarget) // no session part is tried
	f.fails("$3.0", api.MeanPane, api.ErrTarget)
	f.fails("l*.9", api.MeanPane, api.ErrMany)
	f.fails("log.0.0", api.MeanPane, api.ErrTarget)
	none := finder{t, rich(), 0}
	for _, text := range []string{".", "log.0", "nothing.x", "l*.0", "work.", ".%7"} {
		none.fails(text, api.MeanPane, api.ErrNowhere)
	}
}

func TestT2PaneWithoutDot(t *testing.T) {
	f := finder{t, rich(), 8}
	f.means("0", api.MeanPane, place(8, 0, 9, 20)) // the pane 0, and not the index 0
	f.means("2", api.MeanPane, place(8, 0, 9, 22))
	f.means("3", api.MeanPane, place(8, 3, 8, 7))    // no pane 3: the index
	f.means("4", api.MeanPane, place(8, 0, 9, 20))   // nor an index 4: the window of this name
	f.means("7", api.MeanPane, place(10, 6, 11, 30)) // nor a window of this name: the session
	f.means("!", api.MeanPane, place(8, 0, 9, 21))   // the last pane
	f.means("+", api.MeanPane, place(8, 0, 9, 21))   // the next pane
	f.means("{right-of}", api.MeanPane, place(8, 0, 9, 21))
	f.means("^", api.MeanPane, place(8, 0, 9, 20))
	f.means("$", api.MeanPane, place(8, 5, 2, 4))
	f.means("log", api.MeanPane, place(8, 5, 2, 4))
	f.means("=work", api.MeanPane, place(3, 4, 2, 4))
	f.means("$4", api.MeanPane, place(4, 9, 8, 7))
	f.fails("l*", api.MeanPane, api.ErrMany)
	f.fails("wor", api.MeanPane, api.ErrMany)
	f.fails("sh", api.MeanPane, api.ErrTarget)
	f.fails("{top}", api.MeanPane, api.ErrTarget)
	f.fails("8", api.MeanPane, api.ErrTarget)
}

// A pane part that means nothing leaves it to the window part of the same text.
func TestT2PanePartsThatMeanNothing(t *testing.T) {
	s := state(
		session(1, "a", 3, 5, link(3, 1), link(5, 2)),
		session(2, "b", 0, -1, link(0, 1)),
		window(1, "x", 1, 0, 1),
		window(2, "y", 2, 3, 2, 3),
	)
	f := finder{t, s, 1}
	f.means("!", api.MeanPane, place(1, 5, 2, 2)) // no last pane: the last index
	f.means("5", api.MeanPane, place(1, 5, 2, 2))
	f.means("+", api.MeanPane, place(1, 3, 1, 1)) // a step always means a pane
	f.means("-7", api.MeanPane, place(1, 3, 1, 1))
	f.fails("{left-of}", api.MeanPane, api.ErrTarget)
	f.fails("=", api.MeanPane, api.ErrTarget)
	finder{t, s, 2}.fails("!", api.MeanPane, api.ErrTarget)
	finder{t, s, 2}.means("a", api.MeanPane, place(1, 3, 1, 1))
}

func TestT2PaneInNoSession(t *testing.T) {
	f := finder{t, rich(), 5}
	f.means("work", api.MeanPane, place(3, 4, 2, 4))
	f.means("7", api.MeanPane, place(10, 6, 11, 30))
	f.fails("wor", api.MeanPane, api.ErrMany)
	for _, text := range []string{"0", "1", "log", "!", "+", "-", "^", "$", "{left-of}", "=log", "lo*"} {
		f.fails(text, api.MeanPane, api.ErrTarget)
	}
}

func TestT2ByChance(t *testing.T) {
	m := newMaker(2)
	came := map[api.Errno]int{}
	for range 3000 {
		s := m.state()
		for range 30 {
			came[hold(t, s, m.session(s), m.text(s), 1+m.Intn(4)).err]++
		}
	}
	for _, e := range []api.Errno{api.OK, api.ErrTarget, api.ErrMany, api.ErrNowhere} {
		if came[e] < 2000 {
			t.Errorf("error %d came %d times alone: chance is no test of it", e, came[e])
		}
	}
}

// shorts gives all texts of at most so many of these pieces.
func shorts(pieces string, most int) []string {
	all := []string{""}
	for at := 0; most > 0; most-- {
		end := len(all)
		for ; at < end; at++ {
			for _, p := range strings.Fields(pieces) {
				all = append(all, all[at]+p)
			}
		}
	}
	return all
}

func TestT2AllShortTexts(t *testing.T) {
	for _, text := range shorts("% @ $ = + - ! ^ : . 0 1 2 w * {left-of}", 3) {
		for _, mean := range allMeans() {
			hold(t, rich(), 8, text, mean)
			hold(t, example(), 1, text, mean)
			hold(t, example(), 5, text, mean)
		}
	}
	for _, text := range shorts(": . 1 $8 @2 %3 lo", 4) {
		for _, mean := range allMeans() {
			hold(t, rich(), 3, text, mean)
		}
	}
}
