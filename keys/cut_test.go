package keys

import (
	"slices"
	"strings"
	"testing"

	"mullion/api"
)

// inPieces is what a decoder tells that is fed pieces, and what it holds then.
func inPieces(pieces ...string) ([]api.Key, string) {
	d := New()
	var told []api.Key
	for _, piece := range pieces {
		told = append(told, d.Feed(piece)...)
	}
	return told, d.Held()
}

// single is a text's bytes one by one.
func single(text string) []string {
	var all []string
	for i := range len(text) {
		all = append(all, text[i:i+1])
	}
	return all
}

// wantPieces asks that pieces tell the keys of the whole, and hold the same.
func wantPieces(t *testing.T, whole string, pieces ...string) {
	want, held := inPieces(whole)
	if got, kept := inPieces(pieces...); !slices.Equal(got, want) || kept != held {
		t.Errorf("%q tells %s and holds %q, whole %s and %q", pieces, listOf(got), kept, listOf(want), held)
	}
}

func TestK6EveryCut(t *testing.T) {
	texts := []string{"", "a", "\x1b", "\x1b\x1b", "\x1b[A", "\x1b[1;5A\x1bOPx", "\x1b[15;2~\x1b[99Xa", "\x1b[1\x1b[2~", "\x1b\xc3\xa9\xc3A\xffA", "\x1bO\x1bO\x1b", "\xf0\x90\x80\x80\xf4\x90\x80\x80\xed\xa0\x80", "\x1b[" + strings.Repeat("1", 300) + "A"}
	for i := range 60 {
		texts = append(texts, dealt(i).stream(12))
	}
	spread(len(texts), func(n int) {
		text := texts[n]
		wantPieces(t, text, single(text)...)
		for i := range len(text) + 1 {
			wantPieces(t, text, text[:i], text[i:])
			wantPieces(t, text, text[:i], "", text[i:])
			for j := i; j <= min(len(text), i+40); j++ {
				wantPieces(t, text, text[:i], text[i:j], text[j:])
			}
		}
	})
}

func TestK6OneByOne(t *testing.T) {
	spread(20000, func(i int) {
		d := dealt(200000 + i)
		text := d.stream(1 + d.Intn(60))
		wantPieces(t, text, single(text)...)
		wantPieces(t, text, d.pieces(text)...)
		wantPieces(t, text, d.pieces(text)...)
	})
}

// At each cut what is held behind it goes on like the whole would from there.
func TestK6HeldGoesOn(t *testing.T) {
	spread(20000, func(i int) {
		d := dealt(300000 + i)
		text := d.stream(6)
		cut := d.Intn(len(text) + 1)
		first, held := inPieces(text[:cut])
		then, rest := inPieces(held + text[cut:])
		whole, end := inPieces(text)
		if !slices.Equal(append(first, then...), whole) || rest != end {
			t.Errorf("%q cut at %d goes on otherwise than the whole", text, cut)
		}
	})
}

// Long runs by chance, with Flush between, against the chapter's rules.
func TestK2LongRuns(t *testing.T) {
	spread(800, func(i int) {
		d := dealt(40000 + i)
		p := begun(t)
		for range 600 {
			if t.Failed() {
				return
			}
			if p.feed(d.text()); d.Intn(9) == 0 {
				p.flush()
			}
			p.fed = p.fed[max(0, len(p.fed)-9):]
		}
		p.flush()
	})
}

// The whole of a stream at once, against the chapter's rules.
func TestK2LongStreams(t *testing.T) {
	spread(1000, func(i int) {
		begun(t).feed(dealt(50000 + i).stream(150)).flush()
	})
}
