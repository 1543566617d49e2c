package keys

import (
	"runtime"
	"slices"
	"strings"
	"sync"
	"testing"

	"mullion/api"
)

// pair is a decoder, and what the chapter says that it holds. It says what was
// fed, and not at which line: many of them at once would wait for one another.
type pair struct {
	t    testing.TB
	d    *Decoder
	held string
	fed  []string
}

func begun(t testing.TB) *pair {
	d := New()
	if d == nil {
		t.Fatal("New answers nil")
	}
	return (&pair{t: t, d: d}).look()
}

// look asks what is held.
func (p *pair) look() *pair {
	if got := p.d.Held(); got != p.held {
		p.t.Errorf("behind %q: holds %q, and not %q", p.fed, got, p.held)
	}
	return p
}

// feed feeds a chunk, and asks all that is told of it.
func (p *pair) feed(chunk string) *pair {
	p.fed = append(p.fed, chunk)
	got := p.d.Feed(chunk)
	want, held := readByText(p.held + chunk)
	p.held = held
	if !slices.Equal(got, want) {
		p.t.Errorf("behind %q: tells %s, and not %s", p.fed, listOf(got), listOf(want))
	}
	return p.look()
}

// bytes feeds bytes one by one.
func (p *pair) bytes(chunk string) *pair {
	for _, b := range single(chunk) {
		p.feed(b)
	}
	return p
}

func (p *pair) flush() *pair {
	p.fed = append(p.fed, "(flush)")
	got, want := p.d.Flush(), flushedByText(p.held)
	p.held = ""
	if !slices.Equal(got, want) {
		p.t.Errorf("behind %q: tells %s, and not %s", p.fed, listOf(got), listOf(want))
	}
	return p.look()
}

// listOf is keys as a text: their names, with a blank behind each.
func listOf(keys []api.Key) string {
	var b strings.Builder
	for _, k := range keys {
		if r := rowByText(k); r.name != "" {
			b.WriteString(r.name + " ")
		} else {
			b.WriteString("(no key) ")
		}
	}
	return b.String()
}

// wantRead asks for the keys, by their names, and for what is held, of bytes
// that are fed whole, and that are fed one by one; and what Flush tells then.
func wantRead(t *testing.T, text, names, held, flushed string) {
	t.Helper()
	for _, pieces := range [][]string{{text}, single(text)} {
		d := New()
		var told []api.Key
		for _, piece := range pieces {
			told = append(told, d.Feed(piece)...)
		}
		if got := listOf(told); got != names || d.Held() != held {
			t.Errorf("Feed(%q) tells %s and holds %q, and not %s and %q", text, got, d.Held(), names, held)
		}
		if got := listOf(d.Flush()); got != flushed || d.Held() != "" {
			t.Errorf("Flush behind %q tells %s and holds %q, and not %s and nothing", text, got, d.Held(), flushed)
		}
	}
	begun(t).feed(text).flush()
	begun(t).bytes(text).flush()
}

// spread shares work out among goroutines.
func spread(n int, work func(i int)) {
	var all sync.WaitGroup
	workers := runtime.NumCPU()
	for worker := range workers {
		all.Go(func() {
			for i := worker; i < n; i += workers {
				work(i)
			}
		})
	}
	all.Wait()
}

// everyRow hands over all keys that there are, in many goroutines.
func everyRow(work func(r row)) {
	for _, r := range chapter.few {
		work(r)
	}
	const step = 4096
	spread((1114112+step-1)/step, func(i int) {
		for code := max(128, i*step); code < (i+1)*step; code++ {
			for _, r := range characterRows(code) {
				work(r)
			}
		}
	})
}
