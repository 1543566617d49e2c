package verb

import (
	"slices"
	"testing"

	"mullion/api"
)

func says(t *testing.T, c api.Command, want ...string) {
	t.Helper()
	if got, err := Words(c); err != api.OK || !slices.Equal(got, want) {
		t.Errorf("Words(%s): %q, error %d, and not %q", told(c), got, err, want)
	}
	holdWords(t, c)
}

func saysNot(t *testing.T, c api.Command, want api.Errno) {
	t.Helper()
	if got, err := Words(c); err != want || len(got) != 0 {
		t.Errorf("Words(%s): %q, error %d, and not error %d", told(c), got, err, want)
	}
	holdWords(t, c)
}

func TestP125Words(t *testing.T) {
	says(t, command(28, flags("d", "", "h", "", "l", "5", "t", "%1")), "split-window", "-d", "-h", "-l", "5", "-t", "%1")
	says(t, command(8, nil), "kill-server")
	says(t, command(27, flags("l", ""), "a", "b"), "send-keys", "-l", "a", "b")
	says(t, command(22, flags("D", "", "Z", "", "t", "", "y", "3"), "7"), "resize-pane", "-D", "-Z", "-t", "", "-y", "3", "7")
	says(t, command(24, nil, "x", "y"), "select-layout", "x", "y")
	says(t, command(20, flags("t", "-x"), ""), "rename-session", "-t", "-x", "")
	says(t, api.Command{Verb: 14, Flags: []api.Flag{}, Words: []string{}}, "list-sessions")
}

func TestP125EveryNameAndFlag(t *testing.T) {
	for _, e := range entries {
		must := slices.Repeat([]string{"w"}, e.least)
		says(t, command(e.number, nil, must...), append([]string{e.name}, must...)...)
		for _, letter := range e.alone {
			says(t, command(e.number, flags(letter, ""), must...), append([]string{e.name, "-" + letter}, must...)...)
			saysNot(t, command(e.number, flags(letter, "v"), must...), api.ErrValue)
		}
		for _, letter := range e.valued {
			says(t, command(e.number, flags(letter, "v"), must...), append([]string{e.name, "-" + letter, "v"}, must...)...)
			says(t, command(e.number, flags(letter, ""), must...), append([]string{e.name, "-" + letter, ""}, must...)...)
		}
	}
}

func TestP125NoCommand(t *testing.T) {
	for _, verb := range noCommands() {
		saysNot(t, command(verb, nil), api.ErrVerb)
		saysNot(t, command(verb, flags("x", "y", "", ""), "w"), api.ErrVerb)
	}
}

func TestP125LetterThatIsNone(t *testing.T) {
	for _, letter := range []string{"", "x", "H", "-", "dh", "bd", "hv", "lt", "-d", "d ", "\x00", "\xff", "ä"} {
		saysNot(t, command(28, flags(letter, "")), api.ErrFlag)
		saysNot(t, command(28, flags("P", "", letter, "")), api.ErrFlag)
		saysNot(t, command(28, flags("P", "", letter, "", "t", "x")), api.ErrFlag)
		saysNot(t, command(8, flags(letter, "")), api.ErrFlag)
	}
	saysNot(t, command(7, flags("h", "")), api.ErrFlag)
}

func TestP125EveryByteAsALetter(t *testing.T) {
	for _, e := range entries {
		must := slices.Repeat([]string{"w"}, e.least)
		for b := range 256 {
			letter := string([]byte{byte(b)})
			holdWords(t, command(e.number, flags(letter, ""), must...))
			holdWords(t, command(e.number, flags(letter, "v"), must...))
		}
	}
}

func TestP125LetterNotAboveTheOneAhead(t *testing.T) {
	saysNot(t, command(28, flags("d", "", "d", "")), api.ErrFlag)
	saysNot(t, command(28, flags("l", "1", "l", "1")), api.ErrFlag)
	saysNot(t, command(28, flags("h", "", "d", "")), api.ErrFlag)
	saysNot(t, command(28, flags("d", "", "P", "")), api.ErrFlag)
	saysNot(t, command(28, flags("b", "", "h", "", "d", "")), api.ErrFlag)
	saysNot(t, command(28, flags("t", "", "l", "")), api.ErrFlag)
	saysNot(t, command(28, flags("l", "", "h", "")), api.ErrFlag)
	says(t, command(28, flags("P", "", "d", "")), "split-window", "-P", "-d")
}

func TestP125NeedlessValue(t *testing.T) {
	saysNot(t, command(28, flags("d", "x")), api.ErrValue)
	saysNot(t, command(28, flags("b", "", "d", "x", "t", "")), api.ErrValue)
	saysNot(t, command(28, flags("P", "", "v", "\x00")), api.ErrValue)
	saysNot(t, command(28, flags("d", " ")), api.ErrValue)
}

func TestP125TooFewWordsAndTooMany(t *testing.T) {
	for _, e := range entries {
		for n := range e.most + 3 {
			words := slices.Repeat([]string{"x"}, n)
			if n < e.least || n > e.most {
				saysNot(t, command(e.number, nil, words...), api.ErrCount)
			} else {
				says(t, command(e.number, nil, words...), append([]string{e.name}, words...)...)
			}
		}
	}
}

func TestP125OrderOfErrors(t *testing.T) {
	saysNot(t, command(0, flags("x", "y"), "a"), api.ErrVerb)
	saysNot(t, command(28, flags("d", "x", "z", "")), api.ErrFlag)
	saysNot(t, command(28, flags("d", "x", "b", ""), "a"), api.ErrFlag)
	saysNot(t, command(28, flags("z", "x"), "a"), api.ErrFlag)
	saysNot(t, command(28, flags("d", "x", "d", "x"), "a"), api.ErrFlag)
	saysNot(t, command(28, flags("d", "x"), "a"), api.ErrValue)
	saysNot(t, command(28, flags("d", ""), "a"), api.ErrCount)
	saysNot(t, command(28, nil, "--"), api.ErrCount)
}

func TestP125EndOfFlags(t *testing.T) {
	for _, word := range []string{"-l", "--", "-x", "---", "- ", "-\xff", "-\n"} {
		says(t, command(27, nil, word), "send-keys", "--", word)
		says(t, command(27, nil, word, word), "send-keys", "--", word, word)
		says(t, command(27, flags("l", "", "t", word), word), "send-keys", "-l", "-t", word, "--", word)
		says(t, command(27, nil, "a", word), "send-keys", "a", word)
		says(t, command(27, nil, "", word), "send-keys", "", word)
		says(t, command(27, nil, "-", word), "send-keys", "-", word)
	}
	for _, word := range []string{"", "-", "x", "x-", " -l", "\xff-", "+-"} {
		says(t, command(27, nil, word), "send-keys", word)
		says(t, command(27, flags("t", "-"), word), "send-keys", "-t", "-", word)
	}
}

func TestP125CommandsByChance(t *testing.T) {
	m := newMaker(51)
	for range 60000 {
		c := m.command()
		holdWords(t, c)
		holdWords(t, m.spoil(c))
	}
}

// All lists of flags of a few letters, with and without a value.
func TestP125AllShortFlagLists(t *testing.T) {
	for _, letters := range upTo(4, []string{"P", "d", "h", "l", "t", "x", ""}) {
		for set := range 1 << len(letters) {
			c := api.Command{Verb: 28}
			for i, letter := range letters {
				c.Flags = append(c.Flags, api.Flag{Letter: letter, Value: []string{"", "v"}[set>>i&1]})
			}
			holdWords(t, c)
		}
	}
}
