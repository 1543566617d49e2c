package target

import (
	"fmt"
	"math"
	"testing"

	"mullion/api"
)

func TestT7NothingSaid(t *testing.T) {
	for _, here := range []int{3, 4, 8, 10} {
		f := finder{t, rich(), here}
		f.means("", api.MeanIndex, place(here, -1, 0, 0))
		f.means(":", api.MeanIndex, place(here, -1, 0, 0))
		f.means("$8:", api.MeanIndex, place(8, -1, 0, 0))
		f.means("$8", api.MeanIndex, place(8, -1, 0, 0))
	}
	for _, here := range []int{0, 1, -3, 99, math.MinInt} {
		f := finder{t, rich(), here}
		f.fails("", api.MeanIndex, api.ErrNowhere)
		f.fails(":", api.MeanIndex, api.ErrNowhere)
		f.means("$8:", api.MeanIndex, place(8, -1, 0, 0))
		f.means("$8", api.MeanIndex, place(8, -1, 0, 0))
	}
}

// A number up to MaxIndex is an index of the session, whatever is named so.
func TestT7Numbers(t *testing.T) {
	linked := map[int]api.Place{1: place(3, 1, 5, 6), 4: place(3, 4, 2, 4), 7: place(3, 7, 5, 6), 9: place(3, 9, 8, 7), 9999: place(3, 9999, 5, 6)}
	for _, n := range []int{0, 1, 2, 3, 4, 5, 6, 7, 8, 9, 10, 99, 100, 1234, 9998, 9999} {
		want, is := linked[n]
		if !is {
			want = place(3, n, 0, 0)
		}
		number := fmt.Sprint(n)
		finder{t, rich(), 3}.means(number, api.MeanIndex, want)
		finder{t, rich(), 3}.means(":"+number, api.MeanIndex, want)
		finder{t, rich(), 8}.means("=work:"+number, api.MeanIndex, want)
		finder{t, rich(), 0}.means("$3:"+number, api.MeanIndex, want)
		finder{t, rich(), 0}.fails(number, api.MeanIndex, api.ErrNowhere) // though a session is named 7
		finder{t, rich(), 0}.fails(":"+number, api.MeanIndex, api.ErrNowhere)
	}
	finder{t, rich(), 8}.means(":4", api.MeanIndex, place(8, 4, 0, 0)) // though window 9 of this session is named 4
	finder{t, rich(), 8}.means("4", api.MeanIndex, place(8, 4, 0, 0))
	finder{t, rich(), 3}.means("=7:7", api.MeanIndex, place(10, 7, 0, 0))
}

// A number beyond MaxIndex is a part like any other.
func TestT7NumbersBeyond(t *testing.T) {
	f := finder{t, rich(), 10}
	f.means(":10000", api.MeanIndex, place(10, 6, 11, 30)) // the window of this name
	f.fails("10000", api.MeanIndex, api.ErrTarget)         // no session of this name
	f.fails(":10001", api.MeanIndex, api.ErrTarget)
	f.fails("$3:10000", api.MeanIndex, api.ErrTarget)
	for _, n := range []string{"10001", "12345", "4611686018427387904", "4611686018427387905", "99999999999999999999", "00", "01", "-1", "+1", "07", " 7", "7 "} {
		f.fails(n, api.MeanIndex, api.ErrTarget)
		finder{t, rich(), 0}.fails(n, api.MeanIndex, api.ErrTarget)
	}
	s := named("10000", "20000", "9999")
	finder{t, s, 2}.means("10000", api.MeanIndex, place(1, -1, 0, 0))
	finder{t, s, 0}.means("10000", api.MeanIndex, place(1, -1, 0, 0))
	finder{t, s, 0}.means("20000:10", api.MeanIndex, place(2, 10, 0, 0))
	finder{t, s, 2}.means("9999", api.MeanIndex, place(2, 9999, 0, 0))
	finder{t, s, 0}.fails("9999", api.MeanIndex, api.ErrNowhere)
}

func TestT7WindowParts(t *testing.T) {
	f := finder{t, rich(), 3}
	f.means(":^", api.MeanIndex, place(3, 1, 5, 6))
	f.means(":$", api.MeanIndex, place(3, 9999, 5, 6))
	f.means(":!", api.MeanIndex, place(3, 9, 8, 7))
	f.means(":+", api.MeanIndex, place(3, 7, 5, 6))
	f.means(":-2", api.MeanIndex, place(3, 9999, 5, 6))
	f.means(":@5", api.MeanIndex, place(3, 1, 5, 6))
	f.means(":log", api.MeanIndex, place(3, 4, 2, 4))
	f.means(":=lo", api.MeanIndex, place(3, 9, 8, 7))
	f.means("$8:lo?", api.MeanIndex, place(8, 5, 2, 4))
	f.fails("$4:!", api.MeanIndex, api.ErrTarget)
	f.fails(":sh", api.MeanIndex, api.ErrMany)
	f.fails(":nothing", api.MeanIndex, api.ErrTarget)
	f.fails(":log.0", api.MeanIndex, api.ErrTarget)
	f.fails(":@9", api.MeanIndex, api.ErrTarget)
	f.fails("wor:nothing", api.MeanIndex, api.ErrMany)
	f.fails("nothing:0", api.MeanIndex, api.ErrTarget)
	finder{t, rich(), 0}.fails(":log", api.MeanIndex, api.ErrNowhere)
}

// Without a colon what is no number is a session part, and never a window part.
func TestT7SessionParts(t *testing.T) {
	for _, here := range []int{3, 8, 0} {
		f := finder{t, rich(), here}
		f.means("work", api.MeanIndex, place(3, -1, 0, 0))
		f.means("work ", api.MeanIndex, place(4, -1, 0, 0))
		f.means("w*", api.MeanIndex, place(8, -1, 0, 0))
		f.means("=7", api.MeanIndex, place(10, -1, 0, 0))
		f.means("$10", api.MeanIndex, place(10, -1, 0, 0))
		f.means("[7]", api.MeanIndex, place(10, -1, 0, 0))
		f.fails("wor", api.MeanIndex, api.ErrMany)
		f.fails("*", api.MeanIndex, api.ErrMany)
		for _, text := range []string{"log", "=log", "sh", "^", "$", "!", "+", "-", "+1", ".", ".0", "log.0", "$1", "{left-of}"} {
			f.fails(text, api.MeanIndex, api.ErrTarget)
		}
	}
}

func TestT7Ids(t *testing.T) {
	s := rich()
	finder{t, s, 3}.means("@2", api.MeanIndex, place(3, 4, 2, 4))
	finder{t, s, 8}.means("@2", api.MeanIndex, place(8, 5, 2, 4))
	finder{t, s, 3}.means("%12", api.MeanIndex, place(3, 4, 2, 12))
	finder{t, s, 8}.means("%12", api.MeanIndex, place(8, 5, 2, 12))
	finder{t, s, 0}.means("%22", api.MeanIndex, place(8, 0, 9, 22))
	finder{t, s, 3}.fails("%2", api.MeanIndex, api.ErrTarget)
	finder{t, s, 3}.fails("@1", api.MeanIndex, api.ErrTarget)
	finder{t, s, 0}.fails("@1", api.MeanIndex, api.ErrTarget)
}

func TestT7ByChance(t *testing.T) {
	m := newMaker(7)
	for range 2000 {
		s := m.state()
		for range 10 {
			here := m.session(s)
			hold(t, s, here, m.number(), api.MeanIndex)
			hold(t, s, here, m.sessionPart(s)+":"+m.number(), api.MeanIndex)
			hold(t, s, here, m.text(s), api.MeanIndex)
		}
	}
}
