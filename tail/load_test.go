package tail

import (
	"math"
	"math/rand"
	"strings"
	"testing"

	"mullion/api"
)

func TestP61Limits(t *testing.T) {
	for _, limit := range []int{math.MinInt, math.MinInt + 1, -65536, -2, -1, 0, api.MaxTail + 1, api.MaxTail + 2, 2 * api.MaxTail, 1 << 32, 1<<32 + 4, 1<<62 + 4, math.MaxInt} {
		if l, err := New(limit); l != nil || err != api.ErrArg {
			t.Errorf("New(%d) = %v, %d", limit, l, err)
		}
	}
	for _, limit := range []int{1, 2, 3, 4, 100, 255, 256, 65535, api.MaxTail} {
		wantAnswers(t, made(t, limit), &model{limit: limit})
	}
}

func TestP61ANewOneIsEmpty(t *testing.T) {
	first := made(t, 4)
	first.Append("abcdef\n")
	l := made(t, 4)
	if l.Start() != 0 || l.End() != 0 || l.Limit() != 4 || l.All() != "" || l.Lines(3) != "" {
		t.Errorf("%d..%d, limit %d, %q", l.Start(), l.End(), l.Limit(), l.All())
	}
	if s, next, err := l.Read(0, 9); s != "" || next != 0 || err != api.OK {
		t.Errorf("Read(0, 9) = %q, %d, error %d", s, next, err)
	}
	if _, _, err := l.Read(1, 9); err != api.ErrAhead {
		t.Errorf("Read(1, 9): error %d", err)
	}
}

func TestP62Bounds(t *testing.T) {
	const top = api.MaxNumber
	full := strings.Repeat("x", api.MaxTail)
	for _, c := range []struct {
		limit, start int
		data         string
		want         api.Errno
	}{
		{4, 0, "", api.OK},
		{4, 0, "abcd", api.OK},
		{4, 0, "abcde", api.ErrArg},
		{4, 7, "", api.OK},
		{4, 7, "abcd", api.OK},
		{1, 0, "a", api.OK},
		{1, 0, "ab", api.ErrArg},
		{0, 0, "", api.ErrArg},
		{-1, 0, "", api.ErrArg},
		{math.MinInt, 0, "", api.ErrArg},
		{math.MaxInt, 0, "", api.ErrArg},
		{api.MaxTail, 0, full, api.OK},
		{api.MaxTail, 0, full + "x", api.ErrArg},
		{api.MaxTail + 1, 0, "", api.ErrArg},
		{api.MaxTail + 1, 0, full + "x", api.ErrArg},
		{4, -1, "", api.ErrArg},
		{4, -1, "a", api.ErrArg},
		{4, -4, "abcd", api.ErrArg},
		{4, math.MinInt, "abcd", api.ErrArg},
		{4, top - 4, "abcd", api.OK},
		{4, top - 3, "abcd", api.ErrLong},
		{4, top - 1, "x", api.OK},
		{4, top, "", api.OK},
		{4, top, "x", api.ErrLong},
		{4, top + 1, "", api.ErrLong},
		{4, top + 1, "abcd", api.ErrLong},
		{4, math.MaxInt, "", api.ErrLong},
		{4, math.MaxInt, "a", api.ErrLong},
		{4, math.MaxInt - 3, "abcd", api.ErrLong},
		{api.MaxTail, top - api.MaxTail, full, api.OK},
		{api.MaxTail, top - api.MaxTail + 1, full, api.ErrLong},
	} {
		l, err := Load(c.limit, c.start, c.data)
		if err != c.want || (l == nil) != (c.want != api.OK) {
			t.Errorf("Load(%d, %d, %.20q) = %v, %d; want %d", c.limit, c.start, c.data, l == nil, err, c.want)
			continue
		}
		if l != nil {
			wantAnswers(t, l, &model{limit: c.limit, born: c.start, all: c.data})
		}
	}
}

// Where ErrArg and ErrLong both apply, ErrArg is the answer, whichever argument is wrong.
func TestP62TheErrorNamedFirst(t *testing.T) {
	for _, c := range []struct {
		limit, start int
		data         string
	}{
		{0, api.MaxNumber, "x"},
		{0, math.MaxInt, ""},
		{-1, api.MaxNumber + 1, ""},
		{api.MaxTail + 1, api.MaxNumber, "x"},
		{math.MaxInt, math.MaxInt, "x"},
		{4, api.MaxNumber, "abcde"},
		{4, math.MaxInt, "abcde"},
		{4, api.MaxNumber - 4, "abcde"},
		{0, -1, "abcde"},
	} {
		if l, err := Load(c.limit, c.start, c.data); l != nil || err != api.ErrArg {
			t.Errorf("Load(%d, %d, %q) = %v, %d", c.limit, c.start, c.data, l == nil, err)
		}
	}
}

// At every moment of a run a second Log is loaded with what the first one tells: from then on both answer alike.
func TestP62ALoadedOneGoesOnAsTheOneWould(t *testing.T) {
	pieces := texts("ab\n", 3)
	for limit := 1; limit <= 6; limit++ {
		r := rand.New(rand.NewSource(int64(limit)))
		for range 60 {
			l, m := made(t, limit), &model{limit: limit}
			for range r.Intn(6) {
				lay(t, l, m, pieces[r.Intn(len(pieces))])
			}
			twin := loaded(t, l.Limit(), l.Start(), l.All())
			for range 6 {
				wantAnswers(t, twin, m)
				wantAnswers(t, l, m)
				more := pieces[r.Intn(len(pieces))]
				lay(t, l, m, more)
				if err := twin.Append(more); err != api.OK {
					t.Fatalf("Append(%q): error %d", more, err)
				}
			}
		}
	}
}

func TestP62ALoadedOneAtTheBound(t *testing.T) {
	for _, kept := range []string{"", "a", "abc", "abcd"} {
		l := loaded(t, 4, api.MaxNumber-3-len(kept), kept)
		m := &model{limit: 4, born: api.MaxNumber - 3 - len(kept), all: kept}
		lay(t, l, m, "x")
		twin := loaded(t, l.Limit(), l.Start(), l.All())
		for _, one := range []*Log{l, twin} {
			if err := one.Append("123"); err != api.ErrLong {
				t.Errorf("Append beyond the bound: error %d", err)
			}
			wantAnswers(t, one, m)
		}
		lay(t, l, m, "12")
		twin.Append("12")
		wantAnswers(t, l, m)
		wantAnswers(t, twin, m)
	}
}

func TestP62BytesOfAnyKind(t *testing.T) {
	var every []byte
	for b := range 256 {
		every = append(every, byte(b))
	}
	for _, data := range []string{string(every), "\x00", "\n", "\r\n", "\xff\xfe\x80", "äöü", "\x00\x00\x00"} {
		wantAnswers(t, loaded(t, 256, 12, data), &model{limit: 256, born: 12, all: data})
	}
}
