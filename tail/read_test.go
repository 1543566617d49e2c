package tail

import (
	"math"
	"math/rand"
	"testing"

	"mullion/api"
)

func TestP64EveryPlace(t *testing.T) {
	for limit := 1; limit <= 5; limit++ {
		for total := range 12 {
			l, m := made(t, limit), &model{limit: limit}
			for m.end() < total {
				lay(t, l, m, numbered(m.end(), min(3, total-m.end())))
			}
			for from := -3; from <= total+3; from++ {
				for most := -3; most <= limit+3; most++ {
					wantRead(t, l, m, from, most)
				}
				for _, most := range []int{math.MinInt, api.MaxNumber, math.MaxInt - total, math.MaxInt - 1, math.MaxInt} {
					wantRead(t, l, m, from, most)
				}
			}
			wantKept(t, l, m)
		}
	}
}

func TestP64Errors(t *testing.T) {
	l := made(t, 4)
	l.Append("abcdefg") // "defg", 3..7
	for _, c := range []struct {
		from, most int
		want       api.Errno
	}{
		{-1, 0, api.ErrArg},
		{-1, -1, api.ErrArg},
		{math.MinInt, math.MaxInt, api.ErrArg},
		{math.MinInt, math.MinInt, api.ErrArg},
		{4, -1, api.ErrArg},
		{4, math.MinInt, api.ErrArg},
		{0, -1, api.ErrArg},
		{2, -1, api.ErrArg},
		{7, -1, api.ErrArg},
		{8, -1, api.ErrArg},
		{math.MaxInt, -1, api.ErrArg},
		{0, 0, api.ErrGone},
		{0, 1, api.ErrGone},
		{2, 0, api.ErrGone},
		{2, 1, api.ErrGone},
		{2, math.MaxInt, api.ErrGone},
		{8, 0, api.ErrAhead},
		{8, 1, api.ErrAhead},
		{9, math.MaxInt, api.ErrAhead},
		{api.MaxNumber, 0, api.ErrAhead},
		{math.MaxInt, math.MaxInt, api.ErrAhead},
	} {
		if s, next, err := l.Read(c.from, c.most); s != "" || next != 0 || err != c.want {
			t.Errorf("Read(%d, %d) = %q, %d, error %d; want error %d", c.from, c.most, s, next, err, c.want)
		}
	}
}

func TestP64Answers(t *testing.T) {
	l := made(t, 4)
	l.Append("abcdefg") // "defg", 3..7
	for _, c := range []struct {
		from, most int
		want       string
		next       int
	}{
		{3, 0, "", 3},
		{3, 1, "d", 4},
		{3, 3, "def", 6},
		{3, 4, "defg", 7},
		{3, 5, "defg", 7},
		{3, math.MaxInt, "defg", 7},
		{5, 0, "", 5},
		{5, 1, "f", 6},
		{5, 2, "fg", 7},
		{5, 3, "fg", 7},
		{6, math.MaxInt, "g", 7},
		{7, 0, "", 7},
		{7, 1, "", 7},
		{7, math.MaxInt, "", 7},
	} {
		for range 2 {
			if s, next, err := l.Read(c.from, c.most); s != c.want || next != c.next || err != api.OK {
				t.Errorf("Read(%d, %d) = %q, %d, error %d; want %q, %d", c.from, c.most, s, next, err, c.want, c.next)
			}
		}
		if l.Start() != 3 || l.End() != 7 || l.All() != "defg" {
			t.Fatalf("behind Read(%d, %d): %d..%d %q", c.from, c.most, l.Start(), l.End(), l.All())
		}
	}
}

func TestP64AtTheBound(t *testing.T) {
	for _, kept := range []string{"", "x", "abcd"} {
		l := loaded(t, 4, api.MaxNumber-len(kept), kept)
		wantAnswers(t, l, &model{limit: 4, born: api.MaxNumber - len(kept), all: kept})
		if s, next, err := l.Read(api.MaxNumber, math.MaxInt); s != "" || next != api.MaxNumber || err != api.OK {
			t.Errorf("Read at the bound = %q, %d, error %d", s, next, err)
		}
		if _, _, err := l.Read(api.MaxNumber+1, 0); err != api.ErrAhead {
			t.Errorf("Read beyond the bound: error %d", err)
		}
	}
}

// Who reads on from the offset that the last Read told has all bytes, each once, as long as none of them goes first.
func TestP64ReadingOn(t *testing.T) {
	for _, most := range []int{1, 3, 256, 1000} {
		l := made(t, 1000)
		var had string
		next := 0
		for range 200 {
			l.Append(numbered(l.End(), 17*most%1000))
			for next < l.End() {
				s, behind, err := l.Read(next, most)
				if err != api.OK || s == "" || len(s) > most {
					t.Fatalf("Read(%d, %d) = %q, %d, error %d", next, most, s, behind, err)
				}
				had += s
				next = behind
			}
		}
		if had != numbered(0, l.End()) {
			t.Errorf("read %d at a time: what was had is not what was laid in", most)
		}
	}
}

// Every byte that is told, at whatever time, is the one that was laid in with that offset.
func TestP68LongRuns(t *testing.T) {
	for _, limit := range []int{1, 2, 3, 10, 100, 4095, 65535, api.MaxTail} {
		for _, born := range []int{0, 1, 12345, 1 << 40} {
			r := rand.New(rand.NewSource(int64(limit + born)))
			l := loaded(t, limit, born, "")
			asked, gone := 0, 0
			for range 1500 {
				n := r.Intn(8)
				if r.Intn(10) == 0 {
					n = r.Intn(limit + limit/2 + 1)
				}
				if err := l.Append(numbered(l.End(), n)); err != api.OK {
					t.Fatalf("Append: error %d", err)
				}
				from := max(0, l.End()-r.Intn(limit+limit/8+2))
				s, next, err := l.Read(from, r.Intn(300))
				if err == api.ErrGone {
					gone++
					continue
				}
				asked += len(s)
				if s != numbered(from, len(s)) || next != from+len(s) || err != api.OK {
					t.Fatalf("limit %d, %d..%d: Read from %d = %.40q, %d, error %d; want %.40q",
						limit, l.Start(), l.End(), from, s, next, err, numbered(from, len(s)))
				}
			}
			if asked == 0 || gone == 0 {
				t.Errorf("limit %d: %d bytes were read, %d times they were gone", limit, asked, gone)
			}
			if all := l.All(); all != numbered(l.Start(), len(all)) || len(all) != limit {
				t.Errorf("limit %d: All is not what was laid in", limit)
			}
		}
	}
}

// What was once told of each offset is noted, and held against every later answer.
func TestP68NoTwoAnswersDiffer(t *testing.T) {
	r := rand.New(rand.NewSource(68))
	for limit := 1; limit <= 9; limit++ {
		l := made(t, limit)
		var laid []byte
		told := map[int]byte{}
		for range 400 {
			piece := make([]byte, r.Intn(6))
			r.Read(piece)
			laid = append(laid, piece...)
			l.Append(string(piece))
			for range 3 {
				from := l.Start() + r.Intn(limit+1)
				s, _, _ := l.Read(from, r.Intn(limit+2))
				for i := range len(s) {
					before, had := told[from+i]
					if s[i] != laid[from+i] || had && before != s[i] {
						t.Fatalf("limit %d: the byte of %d is told as %d; %d was laid in", limit, from+i, s[i], laid[from+i])
					}
					told[from+i] = s[i]
				}
			}
		}
		if len(told) < 100 {
			t.Errorf("limit %d: of %d offsets alone a byte was told", limit, len(told))
		}
	}
}
