package mirror

import (
	"math/rand"
	"strings"
	"testing"
)

// stories are texts of which some break a mirror, some end it, and some end within a line.
func stories() []string {
	long := ended(greeting()...)
	return []string{
		long,
		long + "%output %1 a\\012b\n%pause %1 9\n%continue %1 11\n%message hello\n%begin 4 1 1\n\nline\n\n%end 4 1 1\n%exit detached\n",
		long + "%begin 4 1 1\nline\n%error 4 1 1\n%subscription-changed w $1 @1 0 %1 : v\n%outp",
		long + "%begin 4 1 1\nline\n%error 4 1 2\nmore\n%end 4 1 1\n",
		"%message a\n\n%message b\n",
		"%begin 1 1 1\n\n\n\n%end 1 1 1\n\n",
		"\n\n\n", "%exit\n%exit\n%exit", "x", "%begin 1 1 1\nhel",
	}
}

func fedIn(pieces ...string) answers {
	m := New()
	for _, text := range pieces {
		m.Feed(text)
	}
	return ask(m)
}

// Every way to cut short texts: 2 to the number of places between their bytes.
func TestM5EveryCut(t *testing.T) {
	for _, text := range []string{"%exit\n%exit\n", "%exit a\nx\ny", "%message \n\n", "\n\nab\n", "%begin 0 0 0\nx", "%mess", "%exit\nab\n"} {
		want := book{text}.read()
		for cuts := range 1 << (len(text) - 1) {
			var pieces []string
			from := 0
			for at := 1; at < len(text); at++ {
				if cuts&(1<<(at-1)) != 0 {
					pieces = append(pieces, text[from:at])
					from = at
				}
			}
			if got := fedIn(append(pieces, text[from:])...); !same(got, want) {
				t.Fatalf("%q, cut as %q, leads to\n%+v\nand not to\n%+v", text, pieces, got, want)
			}
		}
	}
}

// Long texts, cut at one place, at two, and byte by byte, with empty pieces between.
func TestM5Cuts(t *testing.T) {
	for _, text := range stories() {
		want := book{text}.read()
		if got := fedIn(text); !same(got, want) {
			t.Fatalf("%q leads to\n%+v\nand not to\n%+v", text, got, want)
		}
		if got := fedIn(strings.Split(text, "")...); !same(got, want) {
			t.Fatalf("%q, byte by byte, leads to\n%+v\nand not to\n%+v", text, got, want)
		}
		for i := range len(text) + 1 {
			for j := i; j <= len(text); j += 1 + len(text)/40 {
				if got := fedIn(text[:i], "", text[i:j], text[j:], ""); !same(got, want) {
					t.Fatalf("%q, cut at %d and %d, leads to\n%+v\nand not to\n%+v", text, i, j, got, want)
				}
			}
		}
	}
}

// Texts put together by chance, cut by chance.
func TestM5CutsByChance(t *testing.T) {
	for seed := range int64(300) {
		w := newWriter(t, seed)
		w.write(30)
		want := book{w.b.all}.read()
		r := rand.New(rand.NewSource(seed))
		for range 5 {
			if got := fedIn(cutUp(r, w.b.all)...); !same(got, want) {
				t.Fatalf("%s, cut by chance, leads to\n%+v\nand not to\n%+v", short(w.b.all), got, want)
			}
		}
	}
}

// cutUp cuts a text into pieces of any lengths.
func cutUp(r *rand.Rand, text string) []string {
	var pieces []string
	most := 1 + r.Intn(len(text)+2)
	for text != "" {
		n := min(r.Intn(most+1), len(text))
		pieces = append(pieces, text[:n])
		text = text[n:]
	}
	return pieces
}
