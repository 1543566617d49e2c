package lex

import (
	"fmt"
	"runtime"
	"slices"
	"strings"
	"sync"
	"testing"
	"unsafe"

	"mullion/api"
)

func TestRule1EveryCallEnds(t *testing.T) {
	m := newMaker(11)
	for range 3000 {
		line := m.bytes(200)
		Quote(line)
		if got := read(line); got.err != api.OK && len(got.commands) > 0 || got.err != api.ErrQuote && got.place != 0 {
			t.Fatalf("%q is read as %v", line, got)
		}
	}
	for _, part := range []string{" ", ";", "#", "#{", "'", `"`, `\`, `"\`, `\"`, `'"`, "''", `""`, "a'", `"\0`, "a;", "\x00", "\xff"} {
		for _, n := range []int{api.MaxLine - 1, api.MaxLine, api.MaxLine + 1, 1 << 20} {
			line := strings.Repeat(part, n/len(part)+1)[:n]
			hold(t, line)
			if q := Quote(line); n < 1<<20 && q != quoted(line) {
				t.Errorf("Quote of %d bytes %q: %q ...", n, part, q[:20])
			}
		}
	}
}

// A list or a text with the memory that it lies in, spare room too.
type stretch struct {
	from, to uintptr
	what     string
}

func ofList[T any](what string, l []T) stretch {
	var one T
	from := uintptr(unsafe.Pointer(unsafe.SliceData(l)))
	return stretch{from, from + uintptr(cap(l))*unsafe.Sizeof(one), what}
}

func ofText(what, s string) stretch {
	from := uintptr(unsafe.Pointer(unsafe.StringData(s)))
	return stretch{from, from + uintptr(len(s)), what}
}

func ofCommands(what string, commands [][]string) []stretch {
	all := []stretch{ofList(what, commands)}
	for i, c := range commands {
		of := fmt.Sprint("command ", i, " of ", what)
		all = append(all, ofList(of, c))
		for j, w := range c {
			all = append(all, ofText(fmt.Sprint("word ", j, " of ", of), w))
		}
	}
	return all
}

func wantApart(t *testing.T, all []stretch) {
	t.Helper()
	all = slices.DeleteFunc(all, func(s stretch) bool { return s.from == s.to })
	slices.SortFunc(all, func(a, b stretch) int { return int(int64(a.from) - int64(b.from)) })
	for i := 1; i < len(all); i++ {
		if all[i].from < all[i-1].to {
			t.Fatalf("%s shares memory with %s", all[i].what, all[i-1].what)
		}
	}
}

func TestRule3AnswersAreNewMemory(t *testing.T) {
	m := newMaker(12)
	check := func(line string) {
		line = strings.Clone(line)
		held := strings.Clone(line)
		one, two := read(line), read(line)
		wantApart(t, slices.Concat([]stretch{ofText("the line", line)}, ofCommands("an answer", one.commands), ofCommands("another", two.commands)))
		if line != held {
			t.Fatalf("the line %q has changed", held)
		}
		// What is not held any longer could be made again at the same place.
		runtime.KeepAlive(one)
		runtime.KeepAlive(two)
		runtime.KeepAlive(line)
	}
	for range 3000 {
		check(m.line(m.commands()))
		check(m.bytes(20))
	}
	check("a")
	check("a b;c d")
	check(strings.Repeat("a", api.MaxLine))
	for n := range api.MaxWords + 1 {
		check(strings.Repeat("a ", n))
	}
	for n := range api.MaxCommands + 1 {
		check(strings.Repeat("a b c;", n))
	}
}

// What a caller does to an answer, in its spare room too, is not seen in another.
func TestRule3AnswersAreWrittenOver(t *testing.T) {
	const line = "a b c;d e;f;g 'h i'"
	one := read(line)
	want := one.String()
	two := read(line)
	for _, c := range two.commands {
		c = c[:cap(c)]
		for i := range c {
			c[i] = "x"
		}
	}
	whole := two.commands[:cap(two.commands)]
	for i := range whole {
		whole[i] = of("y")
	}
	if one.String() != want || read(line).String() != want {
		t.Errorf("%v, and %v, behind another answer's change", one, read(line))
	}
	// Words that are laid to one command do not come into another.
	three := read(line)
	for i := range three.commands {
		three.commands[i] = append(three.commands[i], "z")
	}
	if got := fmt.Sprintf("%q", three.commands); got != `[["a" "b" "c" "z"] ["d" "e" "z"] ["f" "z"] ["g" "h i" "z"]]` {
		t.Errorf("%s", got)
	}
}

func TestRule3Quote(t *testing.T) {
	m := newMaker(13)
	for range 5000 {
		word := strings.Clone(m.bytes(5))
		if m.chance(30) {
			word = strings.Clone([]string{"a", "Z", "9", "-", "ab", "work", "x:1.0"}[m.Intn(7)])
		}
		one, two := Quote(word), Quote(word)
		wantApart(t, []stretch{ofText("the word", word), ofText("an answer", one), ofText("another", two)})
		runtime.KeepAlive(word)
		runtime.KeepAlive(one)
		runtime.KeepAlive(two)
	}
}

func TestRule4AnswersHangOnTheLineAlone(t *testing.T) {
	m := newMaker(14)
	var lines, want []string
	for range 2000 {
		line := m.bytes(30)
		lines = append(lines, line)
		a, _ := expect(line)
		want = append(want, a.String()+quoted(line))
	}
	var group sync.WaitGroup
	for g := range 8 {
		group.Go(func() {
			for i := range lines {
				at := (i*7 + g*250) % len(lines)
				if got := read(lines[at]).String() + Quote(lines[at]); got != want[at] {
					t.Errorf("%q beside others: %s", lines[at], got)
					return
				}
			}
		})
	}
	group.Wait()
}
