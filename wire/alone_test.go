package wire

import (
	"slices"
	"strings"
	"sync"
	"testing"
	"unsafe"

	"mullion/api"
)

// shares tells whether a text lies in the memory of another.
func shares(inner, outer string) bool {
	if inner == "" || outer == "" {
		return false
	}
	a, b := uintptr(unsafe.Pointer(unsafe.StringData(inner))), uintptr(unsafe.Pointer(unsafe.StringData(outer)))
	return a < b+uintptr(len(outer)) && b < a+uintptr(len(inner))
}

func TestRule3AnswersAreNewMemory(t *testing.T) {
	lines := append(plainLines(), badLines...)
	for _, line := range lines {
		line = strings.Clone(line)
		e := Decode(line)
		for _, s := range []string{e.Name, e.Text, e.Layout, e.Visible} {
			if shares(s, line) {
				t.Errorf("Decode(%q) shares %q", line, s)
			}
		}
		told, err := Encode(e)
		for _, s := range []string{e.Name, e.Text, e.Layout, e.Visible} {
			if err == api.OK && shares(told, s) {
				t.Errorf("Encode(%v) shares %q", e, s)
			}
		}
		text := strings.Clone(line + "\n" + line)
		l, rest := Events(text)
		if shares(rest, text) {
			t.Errorf("the rest of %q is shared", text)
		}
		for _, e := range l {
			if shares(e.Text, text) || shares(e.Name, text) || shares(e.Layout, text) || shares(e.Visible, text) {
				t.Errorf("Events(%q) shares its text", text)
			}
		}
	}
}

func TestRule3ArgumentsAreNotChanged(t *testing.T) {
	l := append(plainEvents(), badEvents()...)
	kept := slices.Clone(l)
	for i := range l {
		Text(l[:i:i])
		Encode(l[i])
	}
	Text(l)
	if !slices.Equal(l, kept) {
		t.Error("Text has changed the list that it was given")
	}
}

// All calls at once, from many goroutines, answer what each answers alone.
func TestRule4AnswersHangOnArgumentsAlone(t *testing.T) {
	texts := scrambled(150)
	type answer struct {
		begins, whole bool
		class         int
		event         api.Event
		rest, line    string
	}
	ask := func(text string) answer {
		var a answer
		a.begins, a.whole = Word(text)
		line, _, _ := strings.Cut(text, "\n")
		a.class, a.event = Class(line), Decode(line)
		a.line, _ = Encode(a.event)
		_, a.rest = Events(text)
		return a
	}
	var want []answer
	for _, text := range texts {
		want = append(want, ask(text))
	}
	var wait sync.WaitGroup
	for range 8 {
		wait.Go(func() {
			for i, text := range texts {
				if got := ask(text); got != want[i] {
					t.Errorf("%q: %v, then %v", text, want[i], got)
				}
			}
		})
	}
	wait.Wait()
}

// Nothing that is handed in makes a call panic, or answer anything beside an error.
func TestRule1AnyBytes(t *testing.T) {
	bytes := everyByte()
	for i := range len(bytes) {
		for j := range len(bytes) {
			text := bytes[i:i+1] + bytes[j:j+1]
			for _, s := range []string{text, "%" + text, "%begin 1 1 1\n" + text} {
				Word(s)
				Events(s)
				if e := Decode(s); (e.Kind == api.EvBad) != (Class(s) == ClassNone) {
					t.Fatalf("Decode(%q) = %v", s, e)
				}
			}
		}
	}
}
