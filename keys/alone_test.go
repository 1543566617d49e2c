package keys

import (
	"math"
	"runtime"
	"slices"
	"strings"
	"sync"
	"testing"
	"unsafe"

	"mullion/api"
)

// Every call ends at all arguments, also at such that make no sense.
func TestRule1AnyArguments(t *testing.T) {
	numbers := []int{math.MinInt, math.MinInt32, -1 << 24, -256, -1, 0, 1, 7, 8, 27, 31, 32, 97, 127, 128, 255, 256, 55296, 1114111, 1114112, 1 << 24, 1<<24 + 1, 1<<24 + 23, 1<<24 + 24, math.MaxInt32, 1 << 32, 1<<32 + 97, math.MaxInt - 1, math.MaxInt}
	for _, code := range numbers {
		for _, mods := range numbers {
			k := api.Key{Code: code, Mods: mods}
			want := rowByText(k)
			if Valid(k) != (want.name != "") || Name(k) != want.name || Bytes(k, false) != want.plain || Bytes(k, true) != want.app {
				t.Errorf("%v: %v, %q, %q, %q", k, Valid(k), Name(k), Bytes(k, false), Bytes(k, true))
			}
		}
	}
}

func TestRule1LongTexts(t *testing.T) {
	var bytes strings.Builder
	for i := range 256 {
		bytes.WriteByte(byte(i))
	}
	d := New()
	for _, text := range []string{"", bytes.String(), strings.Repeat("\x1b[", 1<<16), strings.Repeat("\x1b", 1<<16+1), strings.Repeat("\x1bO", 1<<16), strings.Repeat("\xf0\x90\x80", 1<<16), "\x1b[" + strings.Repeat("1", 1<<20), strings.Repeat("\xff", 1<<16), strings.Repeat("a", 1<<20)} {
		d.Feed(text)
		if len(d.Held()) >= api.MaxSequence {
			t.Errorf("behind %.9q.. %d bytes are held", text, len(d.Held()))
		}
		d.Flush()
		Read(text)
	}
}

// Of what is held no more is kept than can be held.
func TestRule1NothingGrows(t *testing.T) {
	for _, text := range []string{"\x1b[" + strings.Repeat("0", 1<<20), strings.Repeat("\x1b["+strings.Repeat("0", 253)+"\x1b", 1000), strings.Repeat("\x1b\xf0\x90\x80", 1<<16), strings.Repeat("a\x1b[A", 1<<16)} {
		d := New()
		d.Feed(text)
		if cap(d.held) > 2*api.MaxSequence {
			t.Errorf("behind %.9q.. there is room for %d bytes", text, cap(d.held))
		}
	}
}

// What is answered may be written over, spare room too: the decoder goes on as it would.
func TestRule3AnswersAreTheirCallers(t *testing.T) {
	spoil := func(keys []api.Key) {
		keys = keys[:cap(keys)]
		for i := range keys {
			keys[i] = api.Key{Code: -7, Mods: -7}
		}
	}
	spread(300, func(i int) {
		d := dealt(60000 + i)
		p := begun(t)
		for range 40 {
			p.feed(d.text())
			spoil(p.d.Feed(""))
			chunk := d.text()
			told := p.d.Feed(chunk)
			_, p.held = readByText(p.held + chunk)
			spoil(told)
			if p.look(); d.Intn(3) == 0 {
				spoil(p.d.Flush())
				p.held = ""
			}
			p.look()
		}
	})
}

// What was answered stays as it was, whatever comes.
func TestRule3AnswersStay(t *testing.T) {
	spread(200, func(i int) {
		d := dealt(70000 + i)
		dec := New()
		var kept []func() bool
		for range 60 {
			chunk := d.stream(3)
			told := dec.Feed(chunk)
			held := dec.Held()
			copied, heldCopy := slices.Clone(told), strings.Clone(held)
			kept = append(kept, func() bool { return slices.Equal(told, copied) && held == heldCopy })
			if d.Intn(3) == 0 {
				flushed := dec.Flush()
				flushedCopy := slices.Clone(flushed)
				kept = append(kept, func() bool { return slices.Equal(flushed, flushedCopy) })
			}
		}
		for n, same := range kept {
			if !same() {
				t.Errorf("answer %d has changed", n)
			}
		}
	})
}

// stretch is some memory.
type stretch struct{ from, behind uintptr }

func stretchOf(keys []api.Key) stretch {
	from := uintptr(unsafe.Pointer(unsafe.SliceData(keys)))
	return stretch{from, from + uintptr(cap(keys))*unsafe.Sizeof(api.Key{})}
}

// No two lists that are answered share memory, spare room too.
func TestRule3ListsAreNewMemory(t *testing.T) {
	a, b := New(), New()
	var lists [][]api.Key
	for _, text := range []string{"a", "abc", "\x1b[A\x1b[B\x1b[C\x1b[D\x1b[F", "x\x1b", "\x1b[1;5", "y\x1b[12", "abc"} {
		lists = append(lists, a.Feed(text), b.Feed(text), a.Flush(), b.Flush())
	}
	for i, l := range lists {
		for j, m := range lists[:i] {
			x, y := stretchOf(l), stretchOf(m)
			if x.from < y.behind && y.from < x.behind {
				t.Errorf("the lists %d and %d are shared", j, i)
			}
		}
	}
	runtime.KeepAlive(lists)
}

// loose is a text in memory that is written over later.
func loose(text string) (string, func()) {
	memory := []byte(text)
	return unsafe.String(unsafe.SliceData(memory), len(memory)), func() {
		for i := range memory {
			memory[i] = '!'
		}
	}
}

// The bytes of what is fed are written over behind each Feed: what is held was copied.
func TestRule3NothingHandedInIsKept(t *testing.T) {
	spread(300, func(i int) {
		d := dealt(80000 + i)
		p := begun(t)
		for range 40 {
			text := d.text()
			chunk, spoil := loose(text)
			told := p.d.Feed(chunk)
			spoil()
			want, held := readByText(p.held + text)
			p.held = held
			if !slices.Equal(told, want) {
				t.Errorf("%q tells %s, and not %s", text, listOf(told), listOf(want))
			}
			p.look()
		}
		p.flush()
	})
	for _, text := range beginnings() {
		chunk, spoil := loose(text)
		dec := New()
		dec.Feed(chunk)
		held := dec.Held()
		spoil()
		if held != text || dec.Held() != text {
			t.Errorf("%q was held, and is %q and %q now", text, held, dec.Held())
		}
	}
}

// Two that are fed in turns do not know of one another.
func TestRule4TwoInTurns(t *testing.T) {
	spread(200, func(i int) {
		d := dealt(90000 + i)
		a, b := begun(t), begun(t)
		for range 60 {
			a.feed(d.text())
			b.look().feed(d.text())
			a.look()
			if d.Intn(4) == 0 {
				a.flush()
				b.look()
			}
		}
		a.flush()
		b.look().flush()
	})
	a, b := New(), New()
	a.Feed("\x1b[1;")
	b.Feed("\xc3")
	if listOf(a.Feed("5A"))+listOf(b.Feed("\xa9")) != "C-Up \u00e9 " || a == b {
		t.Error("two decoders know of one another")
	}
}

// Many at once, from many goroutines, tell what each tells alone.
func TestRule4ManyAtOnce(t *testing.T) {
	text := dealt(1).stream(400)
	want, held := inPieces(text)
	var all sync.WaitGroup
	for worker := range 8 {
		all.Go(func() {
			d := dealt(95000 + worker)
			for range 20 {
				if got, kept := inPieces(d.pieces(text)...); !slices.Equal(got, want) || kept != held {
					t.Error("another answer than alone")
				}
				r := d.row()
				if k, err := Read(Name(r.key)); k != r.key || err != api.OK || Bytes(r.key, true) != r.app {
					t.Errorf("%s is told otherwise than alone", r.name)
				}
			}
		})
	}
	all.Wait()
}

// What was refused ahead of a call changes nothing about it.
func TestRule4BehindRefusals(t *testing.T) {
	for _, r := range chapter.few {
		Read("M-C-" + r.name)
		Read("\xff")
		Name(api.Key{Code: r.key.Code, Mods: 8})
		Bytes(api.Key{Code: -1, Mods: r.key.Mods}, true)
		wantRow(t, r)
	}
}
