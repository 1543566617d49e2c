package split

import (
	"math"
	"slices"
	"strings"
	"testing"

	"mullion/api"
)

func made(t *testing.T, limit int) *Splitter {
	t.Helper()
	s, err := New(limit)
	if s == nil || err != api.OK {
		t.Fatalf("New(%d) = %v, %d", limit, s, err)
	}
	return s
}

// told is what the chapter says of a stream, cut anew by the library's own means.
func told(stream string, limit int) ([]api.Line, string) {
	parts := strings.Split(stream, "\n")
	last := len(parts) - 1
	var lines []api.Line
	for _, p := range parts[:last] {
		if len(p) > limit {
			lines = append(lines, api.Line{Long: true})
		} else {
			lines = append(lines, api.Line{Text: p})
		}
	}
	return lines, parts[last]
}

// wantWaiting holds what waits against a stream that was fed.
func wantWaiting(t *testing.T, s *Splitter, stream string, limit int) {
	t.Helper()
	lines, rest := told(stream, limit)
	late := len(rest) > limit
	if late {
		rest = ""
	}
	if s.Held() != rest || s.Late() != late || s.Count() != len(lines) || s.Limit() != limit {
		t.Fatalf("behind %.40q with the limit %d: Held %.40q, Late %v, Count %d, Limit %d; want %.40q, %v, %d, %d",
			stream, limit, s.Held(), s.Late(), s.Count(), s.Limit(), rest, late, len(lines), limit)
	}
}

func wantLines(t *testing.T, what string, got, want []api.Line) {
	t.Helper()
	if !slices.Equal(got, want) {
		t.Fatalf("%.60q: %d lines, the first %.20v; want %d, the first %.20v",
			what, len(got), got[:min(len(got), 8)], len(want), want[:min(len(want), 8)])
	}
}

// streams is every text over some bytes with at most so many of them.
func streams(bytes string, most int) []string {
	all := []string{""}
	last := all
	for range most {
		var next []string
		for _, s := range last {
			for i := range len(bytes) {
				next = append(next, s+bytes[i:i+1])
			}
		}
		all = append(all, next...)
		last = next
	}
	return all
}

// greatStreams turn at the greatest limit and at lengths that are powers of two, where buffers and pieces have their ends.
func greatStreams() []string {
	var all []string
	for _, n := range []int{511, 1024, 4094, 4095, 4096, 4097, 8190, 8191, 8192, 8193, 8194, 12288, 16384, 20001} {
		x := strings.Repeat("x", n)
		all = append(all, x, x+"\n", x+"\n"+x+"\ny", "a\n"+x+"\nb\n\n", x+"\n\n"+x)
	}
	return append(all, strings.Repeat("\n", 9000), strings.Repeat("ab\n", 9000)+"c")
}

func TestP21Limits(t *testing.T) {
	for _, limit := range []int{math.MinInt, -8192, -2, -1, 0, api.MaxLine + 1, api.MaxLine + 2, 2 * api.MaxLine, math.MaxInt} {
		if s, err := New(limit); s != nil || err != api.ErrArg {
			t.Errorf("New(%d) = %v, %d", limit, s, err)
		}
	}
	for _, limit := range []int{1, 2, 4, 80, 8191, 8192} {
		wantWaiting(t, made(t, limit), "", limit)
	}
}

func TestP21ANewOneHasBeenFedNothing(t *testing.T) {
	first := made(t, 3)
	first.Feed("a\nbc")
	s := made(t, 3)
	wantWaiting(t, s, "", 3)
	wantLines(t, "an empty chunk", s.Feed(""), nil)
	wantLines(t, "a line end alone", s.Feed("\n"), []api.Line{{}})
}

func TestP22Feed(t *testing.T) {
	long := api.Line{Long: true}
	s := made(t, 4)
	for _, c := range []struct {
		chunk string
		want  []api.Line
	}{
		{"", nil},
		{"ab", nil},
		{"", nil},
		{"c\nd", []api.Line{{Text: "abc"}}},
		{"\n\n", []api.Line{{Text: "d"}, {}}},
		{"abcd\n", []api.Line{{Text: "abcd"}}},
		{"abcde\n", []api.Line{long}},
		{"abcd", nil},
		{"", nil},
		{"\n", []api.Line{{Text: "abcd"}}},
		{"abcd", nil},
		{"e", nil},
		{"fgh", nil},
		{"\nxy", []api.Line{long}},
		{"\r\n", []api.Line{{Text: "xy\r"}}},
		{"a\r\nb\n\r\n", []api.Line{{Text: "a\r"}, {Text: "b"}, {Text: "\r"}}},
		{"abc\r\n", []api.Line{{Text: "abc\r"}}},
		{"abcd\r\n", []api.Line{long}},
		{"abcdefghi\nabcdefghi\nj\n\nabcdef", []api.Line{long, long, {Text: "j"}, {}}},
		{"g\nabcdef\n12345", []api.Line{long, long}},
		{"\n1234\n", []api.Line{long, {Text: "1234"}}},
	} {
		wantLines(t, c.chunk, s.Feed(c.chunk), c.want)
	}
}

func TestP22LengthsAtTheLimit(t *testing.T) {
	for _, limit := range []int{1, 2, 3, 255, 256, 4095, 4096, 4097, 8191, 8192} {
		full := strings.Repeat("x", limit)
		for _, begun := range []int{0, 1, limit / 2, limit - 1, limit} {
			s := made(t, limit)
			wantLines(t, "begun", s.Feed(full[:begun]), nil)
			wantLines(t, "just as long", s.Feed(full[begun:]+"\n"), []api.Line{{Text: full}})
			wantLines(t, "begun", s.Feed(full[:begun]), nil)
			wantLines(t, "longer by one", s.Feed(full[begun:]+"y\n"), []api.Line{{Long: true}})
			wantLines(t, "the next one", s.Feed("z\n"), []api.Line{{Text: "z"}})
		}
	}
}

func TestP22NothingElseEndsALine(t *testing.T) {
	for i := range 256 {
		b := string([]byte{byte(i)})
		s := made(t, 5)
		want := []api.Line{{Text: "a" + b + "b"}}
		if i == 10 {
			want = []api.Line{{Text: "a"}, {Text: "b"}}
		}
		wantLines(t, b, s.Feed("a"+b+"b\n"), want)
		if i != 10 {
			wantLines(t, b, s.Feed(b+b+b), nil)
			wantLines(t, b, s.Feed(b+b+"\n"), []api.Line{{Text: strings.Repeat(b, 5)}})
			wantLines(t, b, s.Feed(strings.Repeat(b, 6)+"\n"), []api.Line{{Long: true}})
		}
	}
	s := made(t, 20)
	wantLines(t, "U+0085, U+2028", s.Feed("\u0085\u2028\v\f\x8a\x00\r"), nil)
}

func TestP22ManyLinesInOneChunk(t *testing.T) {
	for _, stream := range greatStreams() {
		for _, limit := range []int{1, 2, 4096, 8192} {
			want, _ := told(stream, limit)
			wantLines(t, stream, made(t, limit).Feed(stream), want)
		}
	}
}

func TestP23WhatWaits(t *testing.T) {
	s := made(t, 4)
	stream := ""
	for _, chunk := range []string{
		"", "ab", "c", "d", "", "\n", "abcd", "e", "", "fgh", "\n", "abcdefgh", "\nxy", "z\r", "1\n\n", "abcde\nabcd", "abcde\nabc\n",
	} {
		s.Feed(chunk)
		stream += chunk
		wantWaiting(t, s, stream, 4)
	}
}

func TestP23AskingChangesNothing(t *testing.T) {
	s := made(t, 4)
	s.Feed("x\nabc")
	for range 3 {
		wantWaiting(t, s, "x\nabc", 4)
	}
	s.Feed("de")
	for range 3 {
		wantWaiting(t, s, "x\nabcde", 4)
	}
	wantLines(t, "the end", s.Feed("\nf\n"), []api.Line{{Long: true}, {Text: "f"}})
}

func TestP23WaitingOfShortStreams(t *testing.T) {
	for _, stream := range streams("a\n", 8) {
		for limit := 1; limit <= 4; limit++ {
			s := made(t, limit)
			for i := range len(stream) {
				s.Feed(stream[i : i+1])
				wantWaiting(t, s, stream[:i+1], limit)
			}
		}
	}
}

func TestP23WaitingOfGreatStreams(t *testing.T) {
	for _, stream := range greatStreams() {
		for _, limit := range []int{4095, 4096, 8191, 8192} {
			s := made(t, limit)
			s.Feed(stream)
			wantWaiting(t, s, stream, limit)
			s.Feed(stream)
			wantWaiting(t, s, stream+stream, limit)
		}
	}
}

func TestP24WrongLimits(t *testing.T) {
	for _, limit := range []int{math.MinInt, -1, 0, 8193, math.MaxInt} {
		for _, text := range []string{"", "a", "a\nb", "\n"} {
			if lines, rest, err := Lines(text, limit); len(lines) != 0 || rest != "" || err != api.ErrArg {
				t.Errorf("Lines(%q, %d) = %v, %q, %d", text, limit, lines, rest, err)
			}
		}
	}
}

func TestP24Lines(t *testing.T) {
	long := api.Line{Long: true}
	for _, c := range []struct {
		text string
		want []api.Line
		rest string
	}{
		{"", nil, ""},
		{"\n", []api.Line{{}}, ""},
		{"abc", nil, "abc"},
		{"abcdefg", nil, "abcdefg"},
		{"abcdef\nxy\nabcdefg", []api.Line{long, {Text: "xy"}}, "abcdefg"},
		{"abcd\nabcde\n", []api.Line{{Text: "abcd"}, long}, ""},
		{"a\r\n\r", []api.Line{{Text: "a\r"}}, "\r"},
		{"\n\nabcde", []api.Line{{}, {}}, "abcde"},
	} {
		lines, rest, err := Lines(c.text, 4)
		wantLines(t, c.text, lines, c.want)
		if rest != c.rest || err != api.OK {
			t.Errorf("Lines(%q, 4): the rest %q, %d; want %q", c.text, rest, err, c.rest)
		}
	}
}

func TestP24TheRestIsWhole(t *testing.T) {
	for _, stream := range append(greatStreams(), strings.Repeat("r", 1<<20)) {
		for _, limit := range []int{1, 4096, 8192} {
			want, rest := told(stream, limit)
			lines, got, err := Lines(stream, limit)
			wantLines(t, stream, lines, want)
			if got != rest || err != api.OK {
				t.Fatalf("Lines(%.20q, %d): a rest of %d bytes, %d; want %d bytes", stream, limit, len(got), err, len(rest))
			}
		}
	}
}

// fedInChunks tells all that a stream gives, cut behind each place whose bit is set.
func fedInChunks(s *Splitter, stream string, cuts int) []api.Line {
	var lines []api.Line
	from := 0
	for i := range len(stream) {
		if cuts>>i&1 == 1 {
			lines = append(lines, s.Feed(stream[from:i+1])...)
			from = i + 1
		}
	}
	return append(lines, s.Feed(stream[from:])...)
}

func TestP25EveryCutOfShortStreams(t *testing.T) {
	for _, stream := range streams("a\n", 7) {
		for limit := 1; limit <= 3; limit++ {
			want, rest, _ := Lines(stream, limit)
			for cuts := range 1 << len(stream) {
				s := made(t, limit)
				wantLines(t, stream, fedInChunks(s, stream, cuts), want)
				wantWaiting(t, s, stream, limit)
				if !s.Late() && s.Held() != rest {
					t.Fatalf("%q in the chunks %b: Held %q; want %q", stream, cuts, s.Held(), rest)
				}
			}
		}
	}
}

func TestP25GreatStreamsInPieces(t *testing.T) {
	for _, stream := range greatStreams() {
		for _, size := range []int{1, 7, 4095, 4096, 4097, 8192} {
			want, rest, _ := Lines(stream, api.MaxLine)
			s := made(t, api.MaxLine)
			var lines []api.Line
			for chunk := range slices.Chunk([]byte(stream), size) {
				lines = append(lines, s.Feed(string(chunk))...)
			}
			wantLines(t, stream, lines, want)
			wantWaiting(t, s, stream, api.MaxLine)
			if !s.Late() && s.Held() != rest {
				t.Fatalf("%.20q by %d: Held has %d bytes; want %d", stream, size, len(s.Held()), len(rest))
			}
		}
	}
}

func TestP26NothingIsLost(t *testing.T) {
	texts := streams("ab\r\n", 6)
	var each []byte
	for i := range 256 {
		each = append(each, byte(i))
	}
	texts = append(texts, string(each), strings.Repeat(string(each), 30), strings.Repeat("x", 8192)+"\n"+strings.Repeat("y", 9000))
	for _, text := range texts {
		lines, rest, err := Lines(text, api.MaxLine)
		var whole strings.Builder
		for _, l := range lines {
			if l.Long {
				t.Fatalf("Lines(%.20q): too long", text)
			}
			whole.WriteString(l.Text)
			whole.WriteByte('\n')
		}
		whole.WriteString(rest)
		if whole.String() != text || err != api.OK {
			t.Fatalf("Lines(%.40q): together %.40q", text, whole.String())
		}
	}
}
