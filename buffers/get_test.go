package buffers

import (
	"strconv"
	"strings"
	"testing"

	"mullion/api"
)

func TestBU3Get(t *testing.T) {
	p := stacked(t, "", "a", "", "b")
	p.got("buffer0", "buffer0", "0").got("a", "a", "1").got("buffer1", "buffer1", "2").got("b", "b", "3")
	for _, name := range append([]string{"buffer2", "c", "A", "aa", "b ", " b", "buffer", "1", "0", "-", strings.Repeat("x", 1<<16)}, absent...) {
		p.got(name, "", "")
	}
	p.probe()
}

// Of the empty name: nothing, named ones alone, automatic ones behind newer named ones.
func TestBU3GetOfTheEmptyName(t *testing.T) {
	begun(t).got("", "", "")
	p := stacked(t, "a").got("", "a", "0")
	p.is("b", "1", "b").got("", "b", "1").is("a", "2", "a").got("", "a", "2")
	p.is("", "3", "buffer0").got("", "buffer0", "3").is("b", "4", "b").got("", "buffer0", "3").is("c", "5", "c").got("", "buffer0", "3")
	p.is("", "6", "buffer1").got("", "buffer1", "6").is("d", "7", "d").got("", "buffer1", "6").is("buffer0", "8", "buffer0").got("", "buffer0", "8")
	p.del("buffer0", api.OK).got("", "buffer1", "6").del("buffer1", api.OK).got("", "d", "7").del("d", api.OK).got("", "c", "5").probe()
}

// Named ones whose names look like those of automatic ones are not automatic.
func TestBU3GetOfTheEmptyNameLooksAtTheKind(t *testing.T) {
	stacked(t, "", "buffer5", "buffer4").got("", "buffer0", "0").probe()
	stacked(t, "", "", "a").rename("buffer1", "buffer9", api.OK).got("", "buffer0", "0").probe()
	stacked(t, "", "a").rename("buffer0", "buffer0", api.OK).got("", "a", "1").probe()
}

func TestBU3Delete(t *testing.T) {
	for _, name := range []string{"buffer0", "a", "buffer1", "b"} {
		p := stacked(t, "", "a", "", "b")
		p.del(name, api.OK).got(name, "", "").del(name, api.ErrBuffer).probe()
		if n := len(p.buffers.List()); n != 3 {
			t.Errorf("behind Delete(%q) %d buffers are left", name, n)
		}
	}
	p := stacked(t, "", "a", "", "b")
	for _, name := range append([]string{"buffer2", "c", "A", "b ", "buffer"}, absent...) {
		p.del(name, api.ErrBuffer)
	}
	p.names("b", "buffer1", "a", "buffer0").probe()
}

// Of the empty name: the automatic ones from the newest to the oldest, then the named ones.
func TestBU3DeleteOfTheEmptyName(t *testing.T) {
	p := stacked(t, "", "a", "", "b", "", "c")
	p.del("", api.OK).names("c", "b", "buffer1", "a", "buffer0").del("", api.OK).names("c", "b", "a", "buffer0")
	p.del("", api.OK).names("c", "b", "a").probe().del("", api.OK).names("b", "a").del("", api.OK).names("a")
	p.del("", api.OK).names().del("", api.ErrBuffer).probe()
}

// A name that was deleted can be had anew.
func TestBU3DeleteAndAgain(t *testing.T) {
	p := stacked(t, "a", "", "b").del("a", api.OK).is("a", "new", "a").names("a", "b", "buffer0").probe()
	p.del("buffer0", api.OK).is("buffer0", "new", "buffer0").got("", "buffer0", "new").is("b", "x", "b").got("", "b", "x").probe()
}

// Each stands where it stood, and is automatic no more.
func TestBU3Rename(t *testing.T) {
	for at, name := range []string{"buffer0", "a", "buffer1", "b"} {
		p := stacked(t, "", "a", "", "b")
		want := []string{"b", "buffer1", "a", "buffer0"}
		want[3-at] = "y"
		p.rename(name, "y", api.OK).names(want...).got(name, "", "").got("y", "y", strconv.Itoa(at)).probe()
		p.rename(name, "z", api.ErrBuffer).names(want...)
	}
	p := stacked(t, "", "", "").rename("buffer1", "y", api.OK)
	p.limit(1, api.OK).names("buffer2", "y").is("", "x", "buffer3").names("buffer3", "y").probe()
}

// Of the empty name: the same buffer that Get tells.
func TestBU3RenameOfTheEmptyName(t *testing.T) {
	begun(t).rename("", "y", api.ErrBuffer).names()
	p := stacked(t, "", "a", "", "b")
	p.rename("", "x", api.OK).names("b", "x", "a", "buffer0").got("", "buffer0", "0")
	p.rename("", "y", api.OK).names("b", "x", "a", "y").got("", "b", "3")
	p.rename("", "z", api.OK).names("z", "x", "a", "y").got("", "z", "3").probe()
	p.rename("", "", api.ErrName).rename("", "x", api.ErrTaken).rename("", "z", api.OK).names("z", "x", "a", "y").probe()
}

func TestBU3RenameNames(t *testing.T) {
	for _, to := range append([]string{""}, noWords...) {
		p := stacked(t, "", "a")
		p.rename("buffer0", to, api.ErrName).rename("a", to, api.ErrName).rename("", to, api.ErrName).names("a", "buffer0").probe()
	}
	for _, to := range words {
		p := stacked(t, "", "x").rename("x", "q-q", api.OK)
		want := api.OK
		if to == "buffer0" {
			want = api.ErrTaken
		}
		p.rename("q-q", to, want).get(to).probe()
		p = stacked(t, "", "x").rename("", to, api.OK).names("x", to).got(to, to, "0").probe()
	}
}

func TestBU3RenameTaken(t *testing.T) {
	p := stacked(t, "", "a", "", "b")
	all := []string{"buffer0", "a", "buffer1", "b"}
	for _, name := range all {
		for _, to := range all {
			if name != to {
				p.rename(name, to, api.ErrTaken)
			}
		}
	}
	p.names("b", "buffer1", "a", "buffer0").probe()
	p.rename("", "a", api.ErrTaken).rename("", "buffer0", api.ErrTaken).probe()
}

// To its own name: a named one is as it was, an automatic one is automatic no more.
func TestBU3RenameToItsOwnName(t *testing.T) {
	p := stacked(t, "", "a", "", "b")
	p.rename("a", "a", api.OK).rename("b", "b", api.OK).names("b", "buffer1", "a", "buffer0").got("", "buffer1", "2").probe()
	p.rename("buffer1", "buffer1", api.OK).names("b", "buffer1", "a", "buffer0").got("", "buffer0", "0").probe()
	p.limit(1, api.OK).names("b", "buffer1", "a", "buffer0").is("", "x", "buffer2").names("buffer2", "b", "buffer1", "a").probe()
}

func TestBU3RenameFull(t *testing.T) {
	p := fullOf(t, "", "", "a")
	p.rename("buffer0", "y", api.ErrFull).rename("buffer1", "buffer1", api.ErrFull).rename("", "y", api.ErrFull).rename("", "buffer1", api.ErrFull).probe()
	p.rename("a", "y", api.OK).rename("full3", "z", api.OK).rename("z", "z", api.OK).probe()
	p.del("y", api.OK).rename("buffer0", "y", api.OK).rename("buffer1", "buffer1", api.ErrFull).probe()
	p.del("full0", api.OK).rename("", "", api.ErrName).rename("", "buffer1", api.OK).refuse("new", "x", api.ErrFull).probe()
}

// An automatic one that is given a name takes the room of a named one, and leaves that of an automatic one.
func TestBU3RenameTakesRoom(t *testing.T) {
	p := stacked(t, make([]string, 20)...)
	for i := range 20 {
		p.rename("buffer"+strconv.Itoa(i), "n"+strconv.Itoa(i), api.OK)
	}
	p.probe().refuse("new", "x", api.ErrFull).rename("n3", "new", api.OK)
	for i := 20; i < 40; i++ {
		p.is("", "x", "buffer"+strconv.Itoa(i))
	}
	if n := len(p.buffers.List()); n != 40 {
		t.Errorf("%d buffers", n)
	}
	p.rename("", "y", api.ErrFull).probe()
}

// The name that is given up can be had by another; the counter stands where it stood.
func TestBU3RenameLetsTheCounterStand(t *testing.T) {
	p := stacked(t, "", "").rename("buffer1", "y", api.OK).is("", "x", "buffer2").names("buffer2", "y", "buffer0").probe()
	p.rename("buffer0", "buffer1", api.OK).rename("y", "buffer0", api.OK).names("buffer2", "buffer0", "buffer1").is("", "x", "buffer3").probe()
	p = stacked(t, "buffer0", "buffer1").rename("buffer0", "a", api.OK).is("", "x", "buffer0").is("", "x", "buffer2").probe()
}

// Which of two refusals comes first: the missing buffer, the name, the other one, the room.
func TestBU3RenameWhichComesFirst(t *testing.T) {
	p := fullOf(t, "", "")
	for _, to := range []string{"", "a b", "full0", "buffer0", "buffer1", "new", "none"} {
		p.rename("none", to, api.ErrBuffer)
	}
	for _, name := range []string{"", "buffer0", "full0"} {
		p.rename(name, "", api.ErrName).rename(name, "a b", api.ErrName).rename(name, strings.Repeat("x", 33), api.ErrName)
	}
	p.rename("buffer0", "full0", api.ErrTaken).rename("", "buffer0", api.ErrTaken).rename("full0", "full1", api.ErrTaken)
	p.rename("buffer0", "new", api.ErrFull).rename("buffer0", "buffer0", api.ErrFull).rename("full0", "new", api.OK).probe()
}
