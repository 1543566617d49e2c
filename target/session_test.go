package target

import (
	"strings"
	"testing"

	"mullion/api"
)

// named gives sessions of these names, the first one 1, each with a window of its own at 0.
func named(names ...string) api.State {
	var parts []any
	for i, name := range names {
		parts = append(parts, session(i+1, name, 0, -1, link(0, i+1)))
	}
	for i := range names {
		parts = append(parts, window(i+1, "sh", i+1, 0, i+1))
	}
	return state(parts...)
}

// wantSession asks for a session part by itself and with a colon behind it: below 1 it is an error.
func wantSession(t *testing.T, s api.State, part string, want int, err api.Errno) {
	t.Helper()
	for _, here := range []int{1, 2, 99} {
		f := finder{t, s, here}
		for _, mean := range allMeans() {
			p := place(want, 0, want, want)
			if mean == api.MeanIndex {
				p = place(want, -1, 0, 0)
			}
			if err != api.OK {
				p = api.Place{}
			}
			f.answers(part+":", mean, answer{p, err})
			if mean == api.MeanSession && !strings.ContainsAny(part, ":") {
				f.answers(part, mean, answer{p, err})
			}
		}
	}
}

func TestT3NothingSaid(t *testing.T) {
	s := named("a", "b")
	for _, mean := range []int{api.MeanSession, api.MeanWindow, api.MeanPane} {
		finder{t, s, 1}.means(":", mean, place(1, 0, 1, 1))
		finder{t, s, 2}.means(":", mean, place(2, 0, 2, 2))
		finder{t, s, 2}.means(":0", mean, place(2, 0, 2, 2))
		for _, here := range []int{0, 3, -2} {
			finder{t, s, here}.fails(":", mean, api.ErrNowhere)
			finder{t, s, here}.fails(":0", mean, api.ErrNowhere)
			finder{t, s, here}.fails(":nothing", mean, api.ErrNowhere)
		}
	}
}

func TestT3Id(t *testing.T) {
	s := named("a", "b", "c")
	for id, part := range map[int]string{1: "$1", 2: "$2", 3: "$3"} {
		wantSession(t, s, part, id, api.OK)
	}
	for _, part := range []string{"$4", "$0", "$", "$01", "$x", "$$1", "$-1", "$ 1", "$1 ", "$4611686018427387904", "$4611686018427387905", "=$1", "$*", "$?"} {
		wantSession(t, s, part, 0, api.ErrTarget)
	}
}

func TestT3JustThisName(t *testing.T) {
	s := named("work", "work 2", "w", "1", "w*", "a=b")
	for i, name := range []string{"work", "work 2", "w", "1", "w*", "a=b"} {
		wantSession(t, s, "="+name, i+1, api.OK)
		wantSession(t, s, name, i+1, api.OK) // though others begin with it, or match it
	}
	for _, part := range []string{"=", "=wor", "=work ", "= work", "==work", "=WORK", "=*", "=w?", "=$1", "=wo*", "=2"} {
		wantSession(t, s, part, 0, api.ErrTarget)
	}
}

func TestT3Beginning(t *testing.T) {
	s := named("work", "walk", "play", "play 2", "x*y", "xay")
	wantSession(t, s, "wo", 1, api.OK)
	wantSession(t, s, "wal", 2, api.OK)
	wantSession(t, s, "play ", 4, api.OK)
	wantSession(t, s, "x*", 5, api.OK) // it begins so; as a pattern there would be two
	wantSession(t, s, "w", 0, api.ErrMany)
	wantSession(t, s, "pl", 0, api.ErrMany)
	wantSession(t, s, "x", 0, api.ErrMany)
	wantSession(t, s, "ork", 0, api.ErrTarget)
	wantSession(t, s, "work ", 0, api.ErrTarget)
	wantSession(t, s, "works", 0, api.ErrTarget)
	wantSession(t, s, "W", 0, api.ErrTarget)
}

func TestT3Pattern(t *testing.T) {
	s := named("work", "walk", "play", "a[b", "ab")
	wantSession(t, s, "*r*", 1, api.OK)
	wantSession(t, s, "?alk", 2, api.OK)
	wantSession(t, s, "[!w]lay", 3, api.OK)
	wantSession(t, s, "[p-q]*", 3, api.OK)
	wantSession(t, s, `wo\rk`, 1, api.OK)
	wantSession(t, s, "a[", 4, api.OK) // a beginning
	wantSession(t, s, "[a][b]", 5, api.OK)
	wantSession(t, s, "w*", 0, api.ErrMany)
	wantSession(t, s, "*", 0, api.ErrMany)
	wantSession(t, s, "????", 0, api.ErrMany)
	wantSession(t, s, "*a*y*", 3, api.OK)
	wantSession(t, s, "w?k", 0, api.ErrTarget)
	wantSession(t, s, "*x", 0, api.ErrTarget)
	wantSession(t, s, "?", 0, api.ErrTarget)
	wantSession(t, named("only"), "*", 1, api.OK)
}

// The first way by which something is meant is the only one.
func TestT3OrderOfTrials(t *testing.T) {
	wantSession(t, named("a*", "a*b", "ax"), "a*", 1, api.OK)       // a name, and a beginning, and a pattern
	wantSession(t, named("a*b", "ax", "ay"), "a*", 1, api.OK)       // a beginning, and a pattern
	wantSession(t, named("a*b", "a*c", "ax"), "a*", 0, api.ErrMany) // two beginnings
	wantSession(t, named("ax", "b", "ay"), "a*", 0, api.ErrMany)    // a pattern
	wantSession(t, named("ax", "b", "cy"), "a*", 1, api.OK)
	wantSession(t, named("ab", "abc"), "ab", 1, api.OK)
	wantSession(t, named("abc", "ab"), "ab", 2, api.OK)
}
