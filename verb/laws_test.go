package verb

import (
	"testing"

	"mullion/api"
)

// there goes from a command to words and back; false if Words refuses it.
func there(t *testing.T, c api.Command) bool {
	t.Helper()
	words, err := Words(c)
	if err != api.OK {
		return false
	}
	if back := read(words); back.String() != (answer{c, "", api.OK}).String() {
		t.Fatalf("%s is said %q, which is read %v", told(c), words, back)
	}
	return true
}

// back goes from words to a command and to words; false if Read refuses them.
func back(t *testing.T, words []string) bool {
	t.Helper()
	got := read(words)
	if got.err != api.OK {
		return false
	}
	if !there(t, got.command) {
		t.Fatalf("%q is read %v, which Words refuses", words, got)
	}
	return true
}

func TestP126ThereAndBack(t *testing.T) {
	for _, c := range []api.Command{
		command(28, flags("d", "", "h", "", "l", "5", "t", "%1")),
		command(27, flags("t", "-l"), "x"),
		command(27, flags("t", "--"), "--"),
		command(27, flags("t", ""), "-"),
		command(27, flags("l", "", "t", ""), "", ""),
		command(27, nil, "-", "--", "-l"),
		command(27, nil, make([]string, 63)...),
		command(24, nil, "-t", "-t"),
		command(20, nil, "\x00\xff\n"),
		command(8, nil),
	} {
		if !there(t, c) {
			t.Errorf("%s is refused", told(c))
		}
	}
}

func TestP126CommandsByChance(t *testing.T) {
	m := newMaker(61)
	for range 60000 {
		c := m.command()
		if !there(t, c) {
			t.Fatalf("%s is refused", told(c))
		}
		there(t, m.spoil(c))
	}
}

func TestP126WordsByChance(t *testing.T) {
	m := newMaker(62)
	taken := 0
	for range 100000 {
		words := []string{m.called(m.entry())}
		for range m.Intn(4) {
			words = append(words, m.word())
		}
		if back(t, words) {
			taken++
		}
	}
	if taken < 10000 {
		t.Errorf("only %d of the words made by chance say a command", taken)
	}
}

// However a command is spelt, it is that command.
func TestP126SpellingsByChance(t *testing.T) {
	m := newMaker(63)
	for range 60000 {
		c := m.command()
		words := m.spelt(c)
		if got := read(words); got.String() != (answer{c, "", api.OK}).String() {
			t.Fatalf("Read(%q): %v, and not %s", words, got, told(c))
		}
		back(t, words)
	}
}

func TestP126AllShortCommands(t *testing.T) {
	for _, words := range upTo(4, []string{"", "-", "--", "-t", "-tl", "-l", "-lt", "x"}) {
		back(t, append([]string{"send"}, words...))
		back(t, append([]string{"rename"}, words...))
		there(t, api.Command{Verb: 27, Words: words})
		there(t, api.Command{Verb: 27, Flags: flags("t", "-l"), Words: words})
	}
}
