package verb

import (
	"fmt"
	"slices"
	"strings"
	"sync"
	"testing"
	"unsafe"

	"mullion/api"
)

func TestRule1GreatArguments(t *testing.T) {
	for _, piece := range []string{"h", "l", "t", "-", "x", "\xff", "\x00"} {
		long := strings.Repeat(piece, 1<<16)
		for _, words := range [][]string{{long}, {"send", long}, {"send", "-" + long}, {"splitw", "-" + long, "-" + long}, {"splitw", "-t", long}} {
			holdRead(t, words)
		}
		holdWords(t, command(27, flags("t", long), long))
		holdWords(t, command(27, flags(long, long)))
		Value(command(27, flags(long, long)), long)
	}
	many := slices.Repeat([]string{"-h"}, 1<<16)
	reads(t, append([]string{"splitw"}, many...), command(28, flags("h", "")))
	refuses(t, append([]string{"send", "--"}, many...), "send-keys", api.ErrCount)
	saysNot(t, command(27, nil, many...), api.ErrCount)
	saysNot(t, api.Command{Verb: 28, Flags: make([]api.Flag, 1<<16)}, api.ErrFlag)
}

// With an error, every other result is zero but what Read's error is about.
func TestRule2ZeroBesideAnError(t *testing.T) {
	m := newMaker(21)
	for range 20000 {
		words := []string{pick(m, m.word(), m.called(m.entry()))}
		for range m.Intn(4) {
			words = append(words, m.word())
		}
		c, _, err := Read(words)
		if err != api.OK && (c.Verb != 0 || c.Flags != nil || c.Words != nil) {
			t.Fatalf("Read(%q): error %d beside %s", words, err, told(c))
		}
		if said, err := Words(m.spoil(m.command())); err != api.OK && said != nil {
			t.Fatalf("error %d beside %q", err, said)
		}
		if verb, err := Find(words[0]); err != api.OK && verb != 0 {
			t.Fatalf("Find(%q): error %d beside %d", words[0], err, verb)
		}
	}
}

// roomy gives the list again, with spare room that holds something.
func roomy[T any](list []T, spare T) []T { return append(slices.Clip(list), spare)[:len(list)] }

// What is handed in stays as it is, spare room too.
func TestRule3ArgumentsStay(t *testing.T) {
	m := newMaker(31)
	for range 5000 {
		c := m.command()
		words := roomy(m.spelt(c), "spare")
		was := fmt.Sprintf("%q", words[:len(words)+1])
		Read(words)
		if now := fmt.Sprintf("%q", words[:len(words)+1]); now != was {
			t.Fatalf("Read has changed its words: %s, and not %s", now, was)
		}
		c = pick(m, c, m.spoil(c))
		c.Flags, c.Words = roomy(c.Flags, api.Flag{Letter: "s", Value: "pare"}), roomy(c.Words, "spare")
		was = whole(c)
		Words(c)
		Value(c, "t")
		if now := whole(c); now != was {
			t.Fatalf("a command has changed: %s, and not %s", now, was)
		}
	}
}

// whole tells of a command's spare room too.
func whole(c api.Command) string {
	return fmt.Sprintf("%d %q %q", c.Verb, c.Flags[:len(c.Flags)+1], c.Words[:len(c.Words)+1])
}

// scribble writes over a list, makes it longer, and writes over its spare room.
func scribble[T any](list []T, mark T) {
	list = append(list, mark)
	list = list[:cap(list)]
	for i := range list {
		list[i] = mark
	}
}

func TestRule3ListsAreTheirCallers(t *testing.T) {
	a, b := List(), List()
	scribble(a, "!")
	if !slices.Equal(b, allNames()) || !slices.Equal(List(), allNames()) {
		t.Errorf("the names have changed: %q, %q", b, List())
	}
	for verb := range len(allNames()) {
		if Name(verb+1) != allNames()[verb] {
			t.Errorf("Name(%d) has changed: %q", verb+1, Name(verb+1))
		}
	}
}

func TestRule3CommandsAreTheirCallers(t *testing.T) {
	m := newMaker(32)
	for range 5000 {
		c := m.command()
		words := m.spelt(c)
		kept := slices.Clone(words)
		first, second := read(words), read(words)
		scribble(first.command.Words, "!")
		if told(api.Command{Verb: first.command.Verb, Flags: first.command.Flags, Words: c.Words}) != told(c) {
			t.Fatalf("%q: the flags share memory with the words", words)
		}
		scribble(first.command.Flags, api.Flag{Letter: "!", Value: "!"})
		scribble(second.command.Flags, api.Flag{Letter: "?", Value: "?"})
		if fmt.Sprintf("%q", second.command.Words) != fmt.Sprintf("%q", c.Words) || !slices.Equal(words, kept) {
			t.Fatalf("%q: the words share memory", words)
		}
		scribble(words, "?")
		if fmt.Sprintf("%q", second.command.Words) != fmt.Sprintf("%q", c.Words) {
			t.Fatalf("%q: the words share memory with what was handed in", kept)
		}
	}
}

func TestRule3WordsAreTheirCallers(t *testing.T) {
	m := newMaker(33)
	for range 5000 {
		c := m.command()
		was := told(c)
		first, _ := Words(c)
		second, _ := Words(c)
		kept := slices.Clone(second)
		scribble(first, "!")
		if told(c) != was || !slices.Equal(second, kept) {
			t.Fatalf("%s: its words share memory", was)
		}
		scribble(c.Flags, api.Flag{Letter: "!", Value: "!"})
		scribble(c.Words, "!")
		if !slices.Equal(second, kept) {
			t.Fatalf("%s: its words share memory with what was handed in", was)
		}
	}
}

// within tells whether two texts have a byte of memory in common.
func within(a, b string) bool {
	if a == "" || b == "" {
		return false
	}
	p, q := uintptr(unsafe.Pointer(unsafe.StringData(a))), uintptr(unsafe.Pointer(unsafe.StringData(b)))
	return p < q+uintptr(len(b)) && q < p+uintptr(len(a))
}

func sharesText(answers, arguments []string) bool {
	for _, a := range answers {
		for _, b := range arguments {
			if within(a, b) {
				return true
			}
		}
	}
	return false
}

func texts(c api.Command) []string {
	all := slices.Clone(c.Words)
	for _, f := range c.Flags {
		all = append(all, f.Letter, f.Value)
	}
	return all
}

// fresh gives the command in memory of its own: constants of the tests may
// be one with those of the program.
func fresh(c api.Command) api.Command {
	c.Flags = slices.Clone(c.Flags)
	for i, f := range c.Flags {
		c.Flags[i] = api.Flag{Letter: strings.Clone(f.Letter), Value: strings.Clone(f.Value)}
	}
	c.Words = freshWords(c.Words)
	return c
}

func freshWords(words []string) []string {
	var out []string
	for _, word := range words {
		out = append(out, strings.Clone(word))
	}
	return out
}

func TestRule3TextsAreNew(t *testing.T) {
	m := newMaker(34)
	for range 5000 {
		c := fresh(m.command())
		words := freshWords(pick(m, m.spelt(c), []string{m.word(), "x"}, []string{"ls", m.word()}))
		if m.Intn(9) == 0 {
			words = []string{Name(20)}
		}
		got := read(words)
		if sharesText(append(texts(got.command), got.about), words) {
			t.Fatalf("Read(%q) shares its texts' memory", words)
		}
		said, _ := Words(c)
		if sharesText(said, texts(c)) {
			t.Fatalf("Words(%s) shares its texts' memory", told(c))
		}
		for _, f := range c.Flags {
			if value, _ := Value(c, f.Letter); within(value, f.Value) {
				t.Fatalf("Value(%s, %q) shares its text's memory", told(c), f.Letter)
			}
		}
	}
	names := List()
	for i, name := range names {
		if within(name, Name(i+1)) || within(Usage(i+1), name) || within(Usage(i+1), Usage(i+1)) {
			t.Errorf("%s shares its text's memory", name)
		}
	}
}

// The same arguments, handed in by many goroutines at once and in any order, get the same answers.
func TestRule4AnswersHangOnArgumentsAlone(t *testing.T) {
	m := newMaker(44)
	var commands []api.Command
	var spellings [][]string
	for range 500 {
		c := m.command()
		commands = append(commands, c)
		spellings = append(spellings, m.spelt(c))
	}
	var group sync.WaitGroup
	for g := range 8 {
		group.Go(func() {
			for i := range commands {
				at := (i*7 + g*61) % len(commands)
				if got := read(spellings[at]); told(got.command) != told(commands[at]) {
					t.Errorf("%q beside others: %v", spellings[at], got)
					return
				}
				words, err := Words(commands[at])
				if want, wantErr := expectWords(commands[at]); err != wantErr || !slices.Equal(words, want) {
					t.Errorf("%s beside others: %q", told(commands[at]), words)
					return
				}
				if got := Usage(at%32 + 1); got != expectUsage(entries[at%32]) || !slices.Equal(List(), allNames()) {
					t.Errorf("Usage(%d) beside others: %q", at%32+1, got)
					return
				}
			}
		})
	}
	group.Wait()
}
