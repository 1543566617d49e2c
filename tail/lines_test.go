package tail

import (
	"math"
	"strings"
	"testing"

	"mullion/api"
)

var lineNumbers = []int{math.MinInt, math.MinInt + 1, -2, -1, 0, 1, 2, 3, 4, 5, 6, 7, 8, 9, 10, 1000, api.MaxNumber, math.MaxInt - 1, math.MaxInt}

// Every text of few bytes: with and without a line end at its end, of line ends alone, of none.
func TestP65EveryText(t *testing.T) {
	for _, text := range texts("ab\n", 7) {
		l, m := made(t, 9), &model{limit: 9}
		lay(t, l, m, text)
		for _, n := range lineNumbers {
			wantLines(t, l, m, n)
		}
		wantKept(t, l, m)
	}
}

func TestP65BehindBytesThatAreGone(t *testing.T) {
	for limit := 1; limit <= 6; limit++ {
		for _, text := range texts("a\n", 10) {
			l, m := made(t, limit), &model{limit: limit}
			lay(t, l, m, text[:len(text)/2])
			lay(t, l, m, text[len(text)/2:])
			for _, n := range lineNumbers {
				wantLines(t, l, m, n)
			}
		}
	}
}

func TestP65Answers(t *testing.T) {
	for _, c := range []struct {
		text string
		n    int
		want string
	}{
		{"a\nb", 1, "b"},
		{"a\nb", 2, "a\nb"},
		{"a\nb", 3, "a\nb"},
		{"a\nb\n", 1, "b\n"},
		{"a\nb\n", 2, "a\nb\n"},
		{"a\nb\n", 3, "a\nb\n"},
		{"\n\n", 1, "\n"},
		{"\n\n", 2, "\n\n"},
		{"\n\n", 3, "\n\n"},
		{"\n", 1, "\n"},
		{"\nab", 1, "ab"},
		{"\nab", 2, "\nab"},
		{"a\n\n", 1, "\n"},
		{"a\n\n", 2, "a\n\n"},
		{"a\n\n\nb", 2, "\nb"},
		{"a\n\n\nb", 3, "\n\nb"},
		{"a\r\nb\rc", 1, "b\rc"},
		{"a\r\nb\rc", 2, "a\r\nb\rc"},
		{"abc", 1, "abc"},
		{"abc", math.MaxInt, "abc"},
		{"a\nb\nc", math.MaxInt, "a\nb\nc"},
		{"a\nb\nc", api.MaxNumber, "a\nb\nc"},
		{"", 1, ""},
		{"", math.MaxInt, ""},
		{"", 0, ""},
		{"a\nb", 0, ""},
		{"a\nb", -1, ""},
		{"a\nb", math.MinInt, ""},
		{"1234567890\nab\ncd\nefg", 1, "efg"},
		{"1234567890\nab\ncd\nefg", 2, "cd\nefg"},
		{"1234567890\nab\ncd\nefg", 3, "b\ncd\nefg"},
		{"1234567890\nab\ncd\nefg", 4, "b\ncd\nefg"},
		{"1234567890\na\nbc\ndef", 3, "a\nbc\ndef"},
		{"1234567890\na\nbc\ndef", 4, "a\nbc\ndef"},
		{"1234567890\n\nbc\ndef", 4, "\n\nbc\ndef"},
	} {
		l := made(t, 8)
		l.Append(c.text)
		for range 2 {
			if got := l.Lines(c.n); got != c.want {
				t.Errorf("Lines(%d) behind %q = %q; want %q", c.n, c.text, got, c.want)
			}
		}
	}
}

func TestP65ManyLines(t *testing.T) {
	for _, stream := range []string{
		strings.Repeat("\n", 70000),
		strings.Repeat("ab\n", 70000),
		strings.Repeat("ab\n", 70000) + "c",
		strings.Repeat("x", 70000),
		strings.Repeat("x", 70000) + "\n",
		"\n" + strings.Repeat("x", api.MaxTail-1),
		numbered(0, 70000),
	} {
		l, m := made(t, api.MaxTail), &model{limit: api.MaxTail}
		lay(t, l, m, stream)
		has := strings.Count(m.kept(), "\n")
		for _, n := range around(0, 1, 100, has/2, has, has+1, 65536) {
			wantLines(t, l, m, n)
		}
	}
}

func TestP66BehindEachCall(t *testing.T) {
	const nearTheBound = api.MaxNumber - 30
	for limit := 1; limit <= 5; limit++ {
		for _, start := range []int{0, 7, nearTheBound} {
			l, m := loaded(t, limit, start, "a"), &model{limit: limit, born: start, all: "a"}
			wantKept(t, l, m)
			for _, data := range []string{"b\n", "", "c", "d\ne\nf\n", "0123456789"} {
				lay(t, l, m, data)
				wantKept(t, l, m)
				if start == nearTheBound {
					l.Append(strings.Repeat("x", 40))
					wantKept(t, l, m)
				}
				for _, from := range around(0, m.start(), m.end()) {
					l.Read(from, 2)
					wantKept(t, l, m)
				}
				for _, n := range lineNumbers {
					l.Lines(n)
					wantKept(t, l, m)
				}
				l.Start()
				l.End()
				wantKept(t, l, m)
			}
		}
	}
}
