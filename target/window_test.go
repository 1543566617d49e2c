package target

import (
	"testing"

	"mullion/api"
)

// linked gives a session 1 with windows of these names at the indices 1, 3, 5
// and so on, and a session 2 with a window of its own, "other", at 0.
func linked(current, last int, names ...string) api.State {
	x := session(1, "one", current, last)
	parts := []any{session(2, "two", 0, -1, link(0, 90))}
	for i, name := range names {
		x.Links = append(x.Links, link(2*i+1, i+1))
		parts = append(parts, window(i+1, name, i+1, 0, i+1))
	}
	parts = append(parts, window(90, "other", 90, 0, 90))
	return state(append([]any{x}, parts...)...)
}

// wantWindow asks for a window part of session 1, in all ways; index below 0: an error.
func wantWindow(t *testing.T, s api.State, part string, index int, err api.Errno) {
	t.Helper()
	want := answer{err: err}
	if err == api.OK {
		at := index / 2
		want.Place = place(1, index, at+1, at+1)
	}
	for _, mean := range []int{api.MeanSession, api.MeanWindow, api.MeanPane} {
		finder{t, s, 1}.answers(":"+part, mean, want)
		finder{t, s, 2}.answers("$1:"+part, mean, want)
	}
	finder{t, s, 1}.answers(part, api.MeanWindow, want)
	finder{t, s, 1}.answers(part+".", api.MeanPane, want)
}

func TestT4NothingSaid(t *testing.T) {
	for _, index := range []int{1, 3, 5} {
		s := linked(index, -1, "a", "b", "c")
		wantWindow(t, s, "", index, api.OK)
	}
}

func TestT4Id(t *testing.T) {
	s := linked(3, 1, "a", "b", "c")
	wantWindow(t, s, "@1", 1, api.OK)
	wantWindow(t, s, "@3", 5, api.OK)
	for _, part := range []string{"@0", "@", "@01", "@x", "@4", "@1x"} {
		wantWindow(t, s, part, -1, api.ErrTarget)
	}
	// A window that another session shows alone is none of this one.
	finder{t, s, 1}.fails(":@90", api.MeanWindow, api.ErrTarget)
	finder{t, s, 1}.fails("@90.", api.MeanPane, api.ErrTarget)
	finder{t, s, 1}.means("two:@90", api.MeanWindow, place(2, 0, 90, 90))
	// Of several indices of one window the least is meant.
	twice := finder{t, rich(), 3}
	twice.means(":@5", api.MeanWindow, place(3, 1, 5, 6))
	twice.means("@5.", api.MeanPane, place(3, 1, 5, 6))
}

func TestT4Ends(t *testing.T) {
	for _, current := range []int{1, 3, 5} {
		s := linked(current, -1, "a", "b", "c")
		wantWindow(t, s, "^", 1, api.OK)
		wantWindow(t, s, "$", 5, api.OK)
		for _, part := range []string{"^1", "^^", "$$", "^$", "^a", "$a"} {
			wantWindow(t, s, part, -1, api.ErrTarget)
		}
		finder{t, s, 1}.fails(":$1", api.MeanWindow, api.ErrTarget) // a session's id is no window part
	}
	one := linked(1, -1, "a")
	wantWindow(t, one, "^", 1, api.OK)
	wantWindow(t, one, "$", 1, api.OK)
}

func TestT4Last(t *testing.T) {
	wantWindow(t, linked(5, 1, "a", "b", "c"), "!", 1, api.OK)
	wantWindow(t, linked(1, 5, "a", "b", "c"), "!", 5, api.OK)
	wantWindow(t, linked(1, -1, "a", "b", "c"), "!", -1, api.ErrTarget)
	wantWindow(t, linked(1, -1, "a"), "!", -1, api.ErrTarget)
	wantWindow(t, linked(1, 5, "a", "b", "c"), "!!", -1, api.ErrTarget)
	wantWindow(t, linked(1, 5, "a", "b", "c"), "!1", -1, api.ErrTarget)
}

func TestT4Steps(t *testing.T) {
	s := linked(3, 1, "a", "b", "c", "d")
	for part, index := range map[string]int{
		"+": 5, "+1": 5, "+0": 3, "-0": 3, "-": 1, "-1": 1, "+2": 7, "+3": 1, "-2": 7, "-3": 5,
	} {
		wantWindow(t, s, part, index, api.OK)
	}
	// Each link is a step, though several are to one window.
	f := finder{t, rich(), 3}
	f.means("+", api.MeanWindow, place(3, 7, 5, 6))
	f.means("+2", api.MeanWindow, place(3, 9, 8, 7))
	f.means("+3", api.MeanWindow, place(3, 9999, 5, 6))
	f.means("+4", api.MeanWindow, place(3, 1, 5, 6))
	f.means("-2", api.MeanWindow, place(3, 9999, 5, 6))
}

func TestT4JustThisName(t *testing.T) {
	s := linked(3, 1, "sh", "shell", "1", "5", "s*")
	wantWindow(t, s, "=sh", 1, api.OK)
	wantWindow(t, s, "=1", 5, api.OK) // the name, and not the index
	wantWindow(t, s, "=5", 7, api.OK)
	wantWindow(t, s, "=s*", 9, api.OK)
	for _, part := range []string{"=", "=s", "=she", "=9", "=*", "==sh", "=other", "=@1", "=+", "=^", "=!"} {
		wantWindow(t, s, part, -1, api.ErrTarget)
	}
	two := linked(1, -1, "a", "b", "a")
	wantWindow(t, two, "=a", -1, api.ErrMany)
	wantWindow(t, two, "=b", 3, api.OK)
	f := finder{t, rich(), 3}
	f.fails("=sh", api.MeanWindow, api.ErrMany) // one window at three indices
	f.means("=lo", api.MeanWindow, place(3, 9, 8, 7))
}

func TestT4Index(t *testing.T) {
	s := linked(3, 1, "9", "1", "x", "00", "03")
	wantWindow(t, s, "1", 1, api.OK) // the index, and not the name
	wantWindow(t, s, "9", 9, api.OK)
	wantWindow(t, s, "3", 3, api.OK)
	wantWindow(t, s, "5", 5, api.OK)
	wantWindow(t, s, "00", 7, api.OK) // no number: a name
	wantWindow(t, s, "03", 9, api.OK)
	wantWindow(t, s, "0", -1, api.ErrMany) // no index here, but two begin so
	wantWindow(t, s, "2", -1, api.ErrTarget)
	wantWindow(t, s, "01", -1, api.ErrTarget)
	wantWindow(t, s, "9999", -1, api.ErrTarget)
	wantWindow(t, s, "10000", -1, api.ErrTarget)
	finder{t, rich(), 3}.means("9999", api.MeanWindow, place(3, 9999, 5, 6))
	finder{t, rich(), 8}.means("4", api.MeanWindow, place(8, 0, 9, 20))        // a name that is no index here
	finder{t, rich(), 10}.means("10000", api.MeanWindow, place(10, 6, 11, 30)) // nor anywhere
	finder{t, rich(), 10}.means("1000", api.MeanWindow, place(10, 6, 11, 30))
}

func TestT4Names(t *testing.T) {
	s := linked(3, 1, "sh", "shell", "log", "log 2", "x*", "xy")
	wantWindow(t, s, "sh", 1, api.OK)
	wantWindow(t, s, "shell", 3, api.OK)
	wantWindow(t, s, "log", 5, api.OK)
	wantWindow(t, s, "x*", 9, api.OK)
	wantWindow(t, s, "she", 3, api.OK)
	wantWindow(t, s, "log ", 7, api.OK)
	wantWindow(t, s, "s", -1, api.ErrMany)
	wantWindow(t, s, "lo", -1, api.ErrMany)
	wantWindow(t, s, "?h", 1, api.OK)
	wantWindow(t, s, "*[0-9]", 7, api.OK)
	wantWindow(t, s, "s*l", 3, api.OK)
	wantWindow(t, s, "?y", 11, api.OK)
	wantWindow(t, s, "s*", -1, api.ErrMany)
	wantWindow(t, s, "x?", -1, api.ErrMany)
	wantWindow(t, s, "*", -1, api.ErrMany)
	for _, part := range []string{"hell", "SH", "sh ", "log 3", "?", "other", "oth", "[!a-z]*", "{left-of}", "%1x"} {
		wantWindow(t, s, part, -1, api.ErrTarget)
	}
}

func TestT4OrderOfTrials(t *testing.T) {
	wantWindow(t, linked(3, 1, "3", "x", "35"), "3", 3, api.OK)            // an index, a name, a beginning
	wantWindow(t, linked(3, 1, "7", "7x", "7y"), "7", 1, api.OK)           // a name, and beginnings
	wantWindow(t, linked(3, 1, "70", "x", "y"), "7", 1, api.OK)            // a beginning
	wantWindow(t, linked(3, 1, "7x", "x", "7y"), "7", -1, api.ErrMany)     // two of them
	wantWindow(t, linked(3, 1, "a?", "ab", "a?c"), "a?", 1, api.OK)        // a name, a beginning, a pattern
	wantWindow(t, linked(3, 1, "ab", "a?c", "ad"), "a?", 3, api.OK)        // a beginning, and patterns
	wantWindow(t, linked(3, 1, "ab", "a?c", "a?d"), "a?", -1, api.ErrMany) // two beginnings
	wantWindow(t, linked(3, 1, "ab", "x", "y"), "a?", 1, api.OK)
	wantWindow(t, linked(3, 1, "a", "x", "a"), "a", -1, api.ErrMany) // two of one name
	wantWindow(t, linked(3, 1, "a", "x", "ab"), "a", 1, api.OK)
}

// Two links of one window are two indices, by whatever way its name is meant.
func TestT4LinkedTwice(t *testing.T) {
	f := finder{t, rich(), 3}
	for _, part := range []string{"sh", "=sh", "s", "?h", "s*"} {
		f.fails(":"+part, api.MeanWindow, api.ErrMany)
		f.fails(part, api.MeanWindow, api.ErrMany)
		f.fails(part, api.MeanPane, api.ErrMany)
		f.fails(part+".0", api.MeanPane, api.ErrMany)
		f.fails(":"+part, api.MeanIndex, api.ErrMany)
	}
	f.means(":1", api.MeanWindow, place(3, 1, 5, 6))
	f.means(":7", api.MeanWindow, place(3, 7, 5, 6))
	// What other sessions link does not count.
	finder{t, rich(), 8}.means("lo", api.MeanWindow, place(8, 3, 8, 7))
	finder{t, rich(), 4}.means("l", api.MeanWindow, place(4, 9, 8, 7))
}
