package verb

import (
	"math"
	"testing"

	"mullion/api"
)

func values(t *testing.T, c api.Command, letter, want string) {
	t.Helper()
	if got, ok := Value(c, letter); got != want || !ok {
		t.Errorf("Value(%s, %q): %q, %v, and not %q", told(c), letter, got, ok, want)
	}
}

func valuesNot(t *testing.T, c api.Command, letter string) {
	t.Helper()
	if got, ok := Value(c, letter); got != "" || ok {
		t.Errorf("Value(%s, %q): %q, %v", told(c), letter, got, ok)
	}
}

func TestP127FlagThatIsThere(t *testing.T) {
	c := command(28, flags("d", "", "h", "", "l", "5", "t", "%1"), "w")
	values(t, c, "d", "")
	values(t, c, "h", "")
	values(t, c, "l", "5")
	values(t, c, "t", "%1")
	values(t, command(28, flags("t", "\x00\xff\n")), "t", "\x00\xff\n")
}

func TestP127FlagThatIsNot(t *testing.T) {
	c := command(28, flags("d", "", "h", "", "l", "5"), "t", "P")
	for _, letter := range []string{"", "t", "P", "D", "dh", "5", "-d", "\xff"} {
		valuesNot(t, c, letter)
	}
	valuesNot(t, command(28, nil), "d")
	valuesNot(t, api.Command{}, "")
}

func TestP127FlagThatStandsTwice(t *testing.T) {
	values(t, command(28, flags("l", "1", "l", "2")), "l", "1")
	values(t, command(28, flags("t", "a", "l", "1", "t", "b", "l", "2")), "l", "1")
	values(t, command(28, flags("l", "", "l", "2")), "l", "")
}

func TestP127OfCommandsThatWordsRefuses(t *testing.T) {
	for _, verb := range []int{-1, 0, 8, 33, math.MinInt, math.MaxInt} {
		values(t, command(verb, flags("z", "1", "a", "2", "", "3", "long", "4"), "w"), "a", "2")
		values(t, command(verb, flags("z", "1", "a", "2", "", "3", "long", "4")), "z", "1")
		values(t, command(verb, flags("z", "1", "a", "2", "", "3", "long", "4")), "", "3")
		values(t, command(verb, flags("z", "1", "a", "2", "", "3", "long", "4")), "long", "4")
		valuesNot(t, command(verb, flags("z", "1", "a", "2")), "lon")
	}
	values(t, command(28, flags("d", "x")), "d", "x")
}

func TestP127OfWhatWasRead(t *testing.T) {
	c, _, _ := Read([]string{"splitw", "-l", "1", "-dl2"})
	values(t, c, "l", "2")
	values(t, c, "d", "")
	valuesNot(t, c, "h")
}

func TestP127CommandsByChance(t *testing.T) {
	m := newMaker(71)
	for range 20000 {
		c := m.spoil(m.command())
		seen := map[string]bool{}
		for _, f := range c.Flags {
			if !seen[f.Letter] {
				values(t, c, f.Letter, f.Value)
			}
			seen[f.Letter] = true
		}
		for _, letter := range []string{"", "t", "d", "l", "F", "td"} {
			if !seen[letter] {
				valuesNot(t, c, letter)
			}
		}
	}
}
