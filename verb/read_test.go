package verb

import (
	"slices"
	"strings"
	"testing"

	"mullion/api"
)

func command(verb int, flags []api.Flag, words ...string) api.Command {
	return api.Command{Verb: verb, Flags: flags, Words: words}
}

// flags are given as letters, each with its value behind it: "d", "", "l", "5".
func flags(pairs ...string) []api.Flag {
	var out []api.Flag
	for i := 0; i+1 < len(pairs); i += 2 {
		out = append(out, api.Flag{Letter: pairs[i], Value: pairs[i+1]})
	}
	return out
}

func reads(t *testing.T, words []string, want api.Command) {
	t.Helper()
	if got := read(words); got.String() != (answer{want, "", api.OK}).String() {
		t.Errorf("Read(%q): %v, and not %s", words, got, told(want))
	}
	holdRead(t, words)
}

func refuses(t *testing.T, words []string, about string, err api.Errno) {
	t.Helper()
	if got := read(words); got.String() != fails(about, err).String() {
		t.Errorf("Read(%q): %v, and not %v", words, got, fails(about, err))
	}
	holdRead(t, words)
}

func TestP124NoWords(t *testing.T) {
	refuses(t, nil, "", api.ErrArg)
	refuses(t, []string{}, "", api.ErrArg)
}

func TestP124FirstWord(t *testing.T) {
	for _, word := range []string{"", "q", "q q", "-", "--", "-t", "splitwi", "\xff\x00", "lsc"} {
		refuses(t, []string{word}, word, api.ErrVerb)
		refuses(t, []string{word, "-x"}, word, api.ErrVerb)
		refuses(t, []string{word, "ls"}, word, api.ErrVerb)
	}
	for _, word := range []string{"s", "sel", "kill-se", "new-"} {
		refuses(t, []string{word}, word, api.ErrChoice)
		refuses(t, []string{word, "-x", "y"}, word, api.ErrChoice)
	}
	for _, word := range []string{"split-window", "splitw", "sp"} {
		reads(t, []string{word}, command(28, nil))
	}
	reads(t, []string{"new"}, command(17, nil))
}

func TestP124OneLetter(t *testing.T) {
	reads(t, []string{"splitw", "-h"}, command(28, flags("h", "")))
	reads(t, []string{"splitw", "-h", "-d"}, command(28, flags("d", "", "h", "")))
	reads(t, []string{"resizep", "-Z"}, command(22, flags("Z", "")))
	reads(t, []string{"send", "-l", "x"}, command(27, flags("l", ""), "x"))
}

func TestP124SeveralLetters(t *testing.T) {
	reads(t, []string{"splitw", "-vhdbP"}, command(28, flags("P", "", "b", "", "d", "", "h", "", "v", "")))
	reads(t, []string{"splitw", "-vh", "-db"}, command(28, flags("b", "", "d", "", "h", "", "v", "")))
	reads(t, []string{"resizep", "-ZURLD", "5"}, command(22, flags("D", "", "L", "", "R", "", "U", "", "Z", ""), "5"))
}

func TestP124ValueInItsWord(t *testing.T) {
	reads(t, []string{"splitw", "-hd", "-l5", "-t", "%1"}, command(28, flags("d", "", "h", "", "l", "5", "t", "%1")))
	reads(t, []string{"splitw", "-dl5h"}, command(28, flags("d", "", "l", "5h")))
	reads(t, []string{"splitw", "-lt"}, command(28, flags("l", "t")))
	reads(t, []string{"splitw", "-ll"}, command(28, flags("l", "l")))
	reads(t, []string{"splitw", "-l-"}, command(28, flags("l", "-")))
	reads(t, []string{"splitw", "-l--", "-d"}, command(28, flags("d", "", "l", "--")))
	reads(t, []string{"splitw", "-l=x", "-t="}, command(28, flags("l", "=x", "t", "=")))
	reads(t, []string{"send", "-t \n\x00\xff", "x"}, command(27, flags("t", " \n\x00\xff"), "x"))
	reads(t, []string{"send", "-lt%1", "x"}, command(27, flags("l", "", "t", "%1"), "x"))
}

func TestP124ValueInTheNextWord(t *testing.T) {
	for _, value := range []string{"%1", "", "-", "--", "-l", "-t", "-x", "---", " ", "\n", "\x00\xff", "x"} {
		reads(t, []string{"send", "-t", value}, command(27, flags("t", value)))
		reads(t, []string{"send", "-t", value, "x"}, command(27, flags("t", value), "x"))
		reads(t, []string{"send", "-lt", value, "x"}, command(27, flags("l", "", "t", value), "x"))
		reads(t, []string{"send", "-t", value, "-l"}, command(27, flags("l", "", "t", value)))
	}
}

func TestP124NoValue(t *testing.T) {
	refuses(t, []string{"rename", "-t"}, "-t", api.ErrNeeds)
	refuses(t, []string{"splitw", "-hl"}, "-l", api.ErrNeeds)
	refuses(t, []string{"splitw", "-l", "5", "-t"}, "-t", api.ErrNeeds)
	refuses(t, []string{"splitw", "-t", "-t", "-l"}, "-l", api.ErrNeeds)
	refuses(t, []string{"refresh", "-A"}, "-A", api.ErrNeeds)
	// The value is what comes next, whatever it is: nothing is left for the other.
	reads(t, []string{"splitw", "-t", "-l"}, command(28, flags("t", "-l")))
}

func TestP124NoSuchLetter(t *testing.T) {
	refuses(t, []string{"rename", "-x", "a"}, "-x", api.ErrFlag)
	refuses(t, []string{"splitw", "-hxz"}, "-x", api.ErrFlag)
	refuses(t, []string{"splitw", "-H"}, "-H", api.ErrFlag)
	refuses(t, []string{"splitw", "-p"}, "-p", api.ErrFlag)
	refuses(t, []string{"ls", "--x"}, "--", api.ErrFlag)
	refuses(t, []string{"ls", "---"}, "--", api.ErrFlag)
	refuses(t, []string{"splitw", "-h-"}, "--", api.ErrFlag)
	refuses(t, []string{"splitw", "-h\x00"}, "-\x00", api.ErrFlag)
	refuses(t, []string{"splitw", "-\xffh"}, "-\xff", api.ErrFlag)
	refuses(t, []string{"splitw", "-ä"}, "-\xc3", api.ErrFlag)
	refuses(t, []string{"splitw", "- h"}, "- ", api.ErrFlag)
	refuses(t, []string{"kill-server", "-a"}, "-a", api.ErrFlag)
	refuses(t, []string{"splitw", "-t", "%1", "-x"}, "-x", api.ErrFlag)
	// What is the value of a flag is not read as letters.
	reads(t, []string{"splitw", "-lx"}, command(28, flags("l", "x")))
}

func TestP124EndOfFlags(t *testing.T) {
	reads(t, []string{"send", "--", "-l"}, command(27, nil, "-l"))
	reads(t, []string{"send", "--"}, command(27, nil))
	reads(t, []string{"send", "--", "--"}, command(27, nil, "--"))
	reads(t, []string{"send", "--", "--", "-t"}, command(27, nil, "--", "-t"))
	reads(t, []string{"send", "-l", "--", "-t", "x"}, command(27, flags("l", ""), "-t", "x"))
	reads(t, []string{"send", "x", "--", "y"}, command(27, nil, "x", "--", "y"))
	reads(t, []string{"splitw", "--"}, command(28, nil))
	reads(t, []string{"rename", "--", "-x"}, command(20, nil, "-x"))
	refuses(t, []string{"rename", "--"}, "rename-session", api.ErrCount)
}

func TestP124WordsThatAreNoFlags(t *testing.T) {
	reads(t, []string{"send", "-"}, command(27, nil, "-"))
	reads(t, []string{"send", "-", "-l"}, command(27, nil, "-", "-l"))
	reads(t, []string{"send", "x", "-l"}, command(27, nil, "x", "-l"))
	reads(t, []string{"send", "", "-l"}, command(27, nil, "", "-l"))
	reads(t, []string{"send", "l", "-t"}, command(27, nil, "l", "-t"))
	reads(t, []string{"send", "+l", "-t"}, command(27, nil, "+l", "-t"))
	reads(t, []string{"send", "-l", "-", "-t"}, command(27, flags("l", ""), "-", "-t"))
	reads(t, []string{"rename", "-t", "", ""}, command(20, flags("t", ""), ""))
	reads(t, []string{"rename", "-"}, command(20, nil, "-"))
	refuses(t, []string{"ls", "-"}, "list-sessions", api.ErrCount)
}

func TestP124FlagThatStandsTwice(t *testing.T) {
	reads(t, []string{"splitw", "-l", "1", "-l2"}, command(28, flags("l", "2")))
	reads(t, []string{"splitw", "-l2", "-l", "1"}, command(28, flags("l", "1")))
	reads(t, []string{"splitw", "-l2", "-t", "a", "-l", "", "-tb"}, command(28, flags("l", "", "t", "b")))
	reads(t, []string{"splitw", "-hh", "-h"}, command(28, flags("h", "")))
	reads(t, []string{"splitw", "-hdhd"}, command(28, flags("d", "", "h", "")))
	refuses(t, []string{"splitw", "-l", "1", "-l"}, "-l", api.ErrNeeds)
}

func TestP124TooFewWordsAndTooMany(t *testing.T) {
	for _, e := range entries {
		for n := range e.most + 3 {
			words := append([]string{e.name}, slices.Repeat([]string{"x"}, n)...)
			if n < e.least || n > e.most {
				refuses(t, words, e.name, api.ErrCount)
			} else {
				reads(t, words, command(e.number, nil, words[1:]...))
			}
		}
	}
	refuses(t, []string{"rename"}, "rename-session", api.ErrCount)
	refuses(t, []string{"rename", "-tx"}, "rename-session", api.ErrCount)
	refuses(t, []string{"renamew", "a", "b"}, "rename-window", api.ErrCount)
	refuses(t, []string{"ls", "a"}, "list-sessions", api.ErrCount)
	refuses(t, []string{"sp", "-h", "a"}, "split-window", api.ErrCount)
	refuses(t, []string{"selectl"}, "select-layout", api.ErrCount)
	refuses(t, []string{"selectl", "a", "b", "c"}, "select-layout", api.ErrCount)
	refuses(t, append([]string{"send"}, make([]string, 64)...), "send-keys", api.ErrCount)
}

func TestP124OrderOfErrors(t *testing.T) {
	refuses(t, []string{"q", "-x", "-t"}, "q", api.ErrVerb)
	refuses(t, []string{"s", "-x", "-t"}, "s", api.ErrChoice)
	refuses(t, []string{"ls", "-x", "a", "-F"}, "-x", api.ErrFlag)
	refuses(t, []string{"ls", "-xF"}, "-x", api.ErrFlag)
	refuses(t, []string{"ls", "-x", "-y"}, "-x", api.ErrFlag)
	refuses(t, []string{"splitw", "-x", "a"}, "-x", api.ErrFlag)
	refuses(t, []string{"rename", "-t"}, "-t", api.ErrNeeds)
	refuses(t, []string{"rename", "-t", "x", "-x"}, "-x", api.ErrFlag)
	// A flag behind a word is a word.
	refuses(t, []string{"ls", "a", "-x"}, "list-sessions", api.ErrCount)
}

// All words of a few that mean something, up to three behind each command.
func TestP124AllShortCommands(t *testing.T) {
	pool := []string{"", "-", "--", "-t", "-tx", "-d", "-dt", "-td", "-l", "-x", "---", "x", "-F", "-a-"}
	for _, e := range entries {
		for _, words := range upTo(3, pool) {
			holdRead(t, append([]string{e.name}, words...))
		}
	}
}

func TestP124AllShortFlagWords(t *testing.T) {
	var letters []string
	for _, b := range []byte("hdlt-x\xff\x00 ") {
		letters = append(letters, string([]byte{b}))
	}
	for _, word := range upTo(4, letters) {
		holdRead(t, []string{"splitw", "-" + strings.Join(word, "")})
		holdRead(t, []string{"splitw", "-" + strings.Join(word, ""), "v"})
		holdRead(t, []string{"send", strings.Join(word, ""), "-t"})
	}
}

// upTo gives all lists of at most n of the pool's words.
func upTo(n int, pool []string) [][]string {
	all, ends := [][]string{nil}, [][]string{nil}
	for range n {
		var longer [][]string
		for _, list := range ends {
			for _, word := range pool {
				longer = append(longer, append(slices.Clip(list), word))
			}
		}
		all, ends = append(all, longer...), longer
	}
	return all
}

func TestP124WordsByChance(t *testing.T) {
	m := newMaker(41)
	for range 100000 {
		words := []string{m.called(m.entry())}
		for range m.Intn(6) {
			words = append(words, m.word())
		}
		holdRead(t, words)
	}
}
