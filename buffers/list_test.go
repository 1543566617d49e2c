package buffers

import (
	"math"
	"slices"
	"strconv"
	"testing"

	"mullion/api"
)

// The newest first, behind every kind of call.
func TestBU4List(t *testing.T) {
	p := begun(t).names()
	p.is("a", "1", "a").names("a").is("", "2", "buffer0").names("buffer0", "a")
	p.is("b", "3", "b").is("", "4", "buffer1").names("buffer1", "b", "buffer0", "a")
	p.rename("buffer0", "c", api.OK).names("buffer1", "b", "c", "a")
	p.is("a", "5", "a").names("a", "buffer1", "b", "c").del("buffer1", api.OK).names("a", "b", "c")
	p.is("c", "6", "c").names("c", "a", "b").limit(3, api.OK).names("c", "a", "b")
	p.got("a", "a", "5").got("", "c", "6").names("c", "a", "b").del("a", api.OK).names("c", "b")
	p.refuse("a b", "x", api.ErrName).names("c", "b").probe()
	want := []api.Buffer{{Name: "c", Text: "6"}, {Name: "b", Text: "3"}}
	if got := p.buffers.List(); !slices.Equal(got, want) {
		t.Errorf("List is %s", shortList(got))
	}
}

func TestBU4LimitOfWhatCantBe(t *testing.T) {
	p := fullOf(t, make([]string, 20)...)
	for _, n := range []int{0, -1, -2, -20, 21, 22, 40, 256, 1<<32 + 1, math.MinInt, math.MaxInt, math.MinInt + 1} {
		p.limit(n, api.ErrArg)
	}
	p.probe().limit(5, api.OK)
	for _, n := range []int{0, -5, 21} {
		p.limit(n, api.ErrArg)
	}
	p.probe()
}

// Each limit that may be: the oldest automatic ones go at once, and then one for each new one.
func TestBU4Limit(t *testing.T) {
	for n := 1; n <= 20; n++ {
		p := stacked(t, make([]string, 20)...).limit(n, api.OK)
		var want []string
		for i := 19; i >= 20-n; i-- {
			want = append(want, "buffer"+strconv.Itoa(i))
		}
		p.names(want...).is("", "x", "buffer20")
		p.names(append([]string{"buffer20"}, want[:n-1]...)...).probe()
		p.limit(n, api.OK).probe()
	}
}

// Where fewer are there none goes; the limit holds for those that come.
func TestBU4LimitAhead(t *testing.T) {
	for n := 1; n <= 20; n++ {
		p := begun(t).limit(n, api.OK)
		for i := range 25 {
			p.is("", strconv.Itoa(i), "buffer"+strconv.Itoa(i))
			if got := len(p.buffers.List()); got != min(i+1, n) {
				t.Errorf("with the limit %d, behind %d automatic ones, %d are kept", n, i+1, got)
			}
		}
		p.probe()
	}
}

// Named ones between them, newer and older, all stay.
func TestBU4LimitAndNamedOnes(t *testing.T) {
	p := stacked(t, "a", "", "b", "", "", "c", "", "d")
	p.limit(3, api.OK).names("d", "buffer3", "c", "buffer2", "buffer1", "b", "a")
	p.limit(2, api.OK).names("d", "buffer3", "c", "buffer2", "b", "a").probe()
	p.limit(1, api.OK).names("d", "buffer3", "c", "b", "a").probe().rename("", "e", api.OK).limit(1, api.OK).names("d", "e", "c", "b", "a").probe()
	p = fullOf(t, make([]string, 20)...).limit(1, api.OK)
	if n := len(p.buffers.List()); n != 21 {
		t.Errorf("%d buffers", n)
	}
	p.got("", "buffer19", "19").probe()
}

// The oldest is the one that was set longest ago.
func TestBU4LimitAndThoseThatWereSetAgain(t *testing.T) {
	p := stacked(t, "", "", "", "", "").is("buffer0", "again", "buffer0").is("a", "x", "a").is("buffer3", "again", "buffer3")
	p.limit(4, api.OK).names("buffer3", "a", "buffer0", "buffer4", "buffer2").limit(2, api.OK).names("buffer3", "a", "buffer0").probe()
}

// A limit that rises again brings nothing back, and counts from then on.
func TestBU4LimitRises(t *testing.T) {
	p := stacked(t, "", "", "").limit(1, api.OK).names("buffer2").limit(20, api.OK).names("buffer2")
	p.is("", "x", "buffer3").names("buffer3", "buffer2").limit(2, api.OK).is("", "x", "buffer4").names("buffer4", "buffer3").probe()
	p.limit(3, api.OK).is("", "x", "buffer5").names("buffer5", "buffer4", "buffer3").is("", "x", "buffer6").names("buffer6", "buffer5", "buffer4").probe()
}

// The limit is of automatic ones alone: named ones come up to MaxBuffers.
func TestBU4LimitIsOfAutomaticOnes(t *testing.T) {
	p := begun(t).limit(1, api.OK)
	for _, name := range numbered("n", 20) {
		p.is(name, "x", name)
	}
	p.refuse("n20", "x", api.ErrFull).is("", "x", "buffer0").is("", "x", "buffer1").probe()
	p.rename("", "y", api.ErrFull).del("n7", api.OK).rename("", "y", api.OK).is("", "x", "buffer2").probe()
}
