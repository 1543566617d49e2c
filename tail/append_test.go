package tail

import (
	"math/rand"
	"strings"
	"testing"

	"mullion/api"
)

// Every choice of four lengths in a row, from none to more than twice the limit.
func TestP63Lengths(t *testing.T) {
	for limit := 1; limit <= 4; limit++ {
		most := 2*limit + 2
		runs := 1
		for range 4 {
			runs *= most
		}
		for run := range runs {
			l, m := made(t, limit), &model{limit: limit}
			for range 4 {
				lay(t, l, m, numbered(m.end(), run%most))
				wantKept(t, l, m)
				run /= most
			}
		}
	}
}

func TestP63GreatLengths(t *testing.T) {
	for _, limit := range []int{255, 256, 257, 4096, 65535, api.MaxTail} {
		for _, n := range []int{1, limit / 2, limit - 1, limit, limit + 1, 2*limit - 1, 2 * limit, 2*limit + 1, 5*limit + 3} {
			l, m := made(t, limit), &model{limit: limit}
			for _, size := range []int{n, 0, 1, n, limit, 1, n} {
				lay(t, l, m, numbered(m.end(), size))
				wantKept(t, l, m)
			}
			wantAnswers(t, l, m)
		}
	}
}

func TestP63Examples(t *testing.T) {
	l := made(t, 4)
	for _, c := range []struct {
		data       string
		start, end int
		all        string
	}{
		{"", 0, 0, ""},
		{"abc", 0, 3, "abc"},
		{"", 0, 3, "abc"},
		{"de", 1, 5, "bcde"},
		{"0123456789", 11, 15, "6789"},
		{"", 11, 15, "6789"},
		{"wxyz", 15, 19, "wxyz"},
		{"\n", 16, 20, "xyz\n"},
		{"01234", 21, 25, "1234"},
	} {
		if err := l.Append(c.data); err != api.OK {
			t.Fatalf("Append(%q): error %d", c.data, err)
		}
		if l.Start() != c.start || l.End() != c.end || l.All() != c.all {
			t.Errorf("behind Append(%q): %d..%d %q; want %d..%d %q", c.data, l.Start(), l.End(), l.All(), c.start, c.end, c.all)
		}
	}
}

func TestP63UpToTheBound(t *testing.T) {
	const top = api.MaxNumber
	for _, c := range []struct {
		born int
		kept string
		data string
		want api.Errno
	}{
		{top, "", "", api.OK},
		{top, "", "y", api.ErrLong},
		{top - 1, "x", "", api.OK},
		{top - 1, "x", "y", api.ErrLong},
		{top - 2, "x", "y", api.OK},
		{top - 2, "x", "yz", api.ErrLong},
		{top - 4, "", "abcd", api.OK},
		{top - 4, "", "abcde", api.ErrLong},
		{top - 8, "abcd", "wxyz", api.OK},
		{top - 8, "abcd", "wxyz5", api.ErrLong},
		{top - 10, "ab", "12345678", api.OK},
		{top - 10, "ab", "123456789", api.ErrLong},
		{top - 10, "ab", strings.Repeat("long", 5000), api.ErrLong},
		{top - 20000, "", strings.Repeat("long", 5000), api.OK},
		{top - 19999, "", strings.Repeat("long", 5000), api.ErrLong},
	} {
		l := loaded(t, 4, c.born, c.kept)
		m := &model{limit: 4, born: c.born, all: c.kept}
		if err := l.Append(c.data); err != c.want {
			t.Errorf("Append of %d bytes at %d below the bound: error %d; want %d", len(c.data), top-m.end(), err, c.want)
		}
		if c.want == api.OK {
			m.all += c.data
		}
		wantAnswers(t, l, m)
		// What did not fit has used nothing up: what fits just so is still laid in, and then no byte more.
		lay(t, l, m, numbered(m.end(), top-m.end()))
		wantAnswers(t, l, m)
		if err := l.Append("z"); err != api.ErrLong {
			t.Errorf("Append at the bound: error %d", err)
		}
		lay(t, l, m, "")
		wantAnswers(t, l, m)
	}
}

func TestP63WithAnErrorNothingHasChanged(t *testing.T) {
	l := loaded(t, 6, api.MaxNumber-9, "a\nb\n")
	m := &model{limit: 6, born: api.MaxNumber - 9, all: "a\nb\n"}
	for _, data := range []string{"123456", "1234567", strings.Repeat("\n", 100), strings.Repeat("x", 1<<20)} {
		for range 3 {
			if err := l.Append(data); err != api.ErrLong {
				t.Errorf("Append of %d bytes: error %d", len(data), err)
			}
			wantAnswers(t, l, m)
		}
	}
	lay(t, l, m, "12345")
	wantAnswers(t, l, m)
}

// pieces lays a stream in, cut at the places that the bits of a number say.
func pieces(t *testing.T, limit int, stream string, cuts int) *Log {
	t.Helper()
	l := made(t, limit)
	from := 0
	for i := 1; i <= len(stream); i++ {
		if i == len(stream) || cuts>>(i-1)&1 == 1 {
			if err := l.Append(stream[from:i]); err != api.OK {
				t.Fatalf("Append(%q): error %d", stream[from:i], err)
			}
			from = i
		}
	}
	return l
}

func TestP67EveryCut(t *testing.T) {
	stream := "a\nbc\nd\n\ne"
	for n := range len(stream) + 1 {
		for limit := 1; limit <= len(stream)+1; limit++ {
			m := &model{limit: limit, all: stream[:n]}
			for cuts := range 1 << max(0, n-1) {
				l := pieces(t, limit, stream[:n], cuts)
				wantKept(t, l, m)
				if want := stream[max(0, n-limit):n]; l.All() != want {
					t.Fatalf("All with the limit %d behind %q = %q; want %q", limit, stream[:n], l.All(), want)
				}
			}
		}
	}
}

func TestP67GreatCuts(t *testing.T) {
	stream := numbered(0, 300000)
	for _, limit := range []int{1, 2, 100, 1000, 65535, api.MaxTail} {
		m := &model{limit: limit, all: stream}
		r := rand.New(rand.NewSource(int64(limit)))
		for _, size := range []int{1, 2, 7, 255, 256, 4096, 16384, 65536, 65537, 150000, 300000} {
			even, odd := made(t, limit), made(t, limit)
			for rest := stream; rest != ""; {
				n := min(size, len(rest))
				even.Append(rest[:n])
				rest = rest[n:]
			}
			for rest := stream; rest != ""; {
				n := min(r.Intn(2*size), len(rest))
				odd.Append(rest[:n])
				rest = rest[n:]
			}
			wantKept(t, even, m)
			wantKept(t, odd, m)
			if even.All() != stream[len(stream)-limit:] {
				t.Fatalf("pieces of %d, limit %d: All is not the last bytes", size, limit)
			}
		}
	}
}
