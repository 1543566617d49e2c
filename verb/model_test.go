package verb

import (
	"fmt"
	"regexp"
	"slices"
	"strconv"
	"strings"
	"testing"

	"mullion/api"
)

// The chapter's table, and what it says of the calls, once more: the letters
// of flags are found by regular expressions that are made of the table's rows.
const chapter = `
1 | break-pane | breakp | P d | n s t | 0 to 0
2 | capture-pane | capturep | p | S t | 0 to 0
3 | detach-client | detach | - | - | 0 to 0
4 | display-message | display | p | t | 0 to 1
5 | has-session | has | - | t | 0 to 0
6 | join-pane | joinp | b d h v | l s t | 0 to 0
7 | kill-pane | killp | a | t | 0 to 0
8 | kill-server | - | - | - | 0 to 0
9 | kill-session | - | a | t | 0 to 0
10 | kill-window | killw | a | t | 0 to 0
11 | link-window | linkw | d | s t | 0 to 0
12 | list-commands | lscm | - | - | 0 to 0
13 | list-panes | lsp | a s | F t | 0 to 0
14 | list-sessions | ls | - | F | 0 to 0
15 | list-windows | lsw | a | F t | 0 to 0
16 | move-window | movew | d | s t | 0 to 0
17 | new-session | new | P d | n s x y | 0 to 0
18 | new-window | neww | P d | n t | 0 to 0
19 | refresh-client | refresh | - | A B f | 0 to 0
20 | rename-session | rename | - | t | 1 to 1
21 | rename-window | renamew | - | t | 1 to 1
22 | resize-pane | resizep | D L R U Z | t x y | 0 to 1
23 | resize-window | resizew | - | t x y | 0 to 0
24 | select-layout | selectl | - | t | 1 to 2
25 | select-pane | selectp | D L R U l | t | 0 to 0
26 | select-window | selectw | l n p | t | 0 to 0
27 | send-keys | send | l | t | 0 to 63
28 | split-window | splitw | P b d h v | l t | 0 to 0
29 | swap-pane | swapp | - | s t | 0 to 0
30 | swap-window | swapw | - | s t | 0 to 0
31 | switch-client | switchc | n p | t | 0 to 0
32 | unlink-window | unlinkw | k | t | 0 to 0
`

type entry struct {
	number        int
	name, alias   string
	alone, valued []string
	least, most   int
	// flagWord is as much of a flag word as is in order: letters that stand
	// alone, then one that takes a value, then that value.
	flagWord *regexp.Regexp
	// inOrder is all letters that a command's flags may have, in their order.
	inOrder *regexp.Regexp
}

var entries = readChapter()

func readChapter() []entry {
	var all []entry
	for _, line := range strings.Split(strings.TrimSpace(chapter), "\n") {
		f := strings.Split(line, " | ")
		number, _ := strconv.Atoi(f[0])
		e := entry{number: number, name: f[1], alias: strings.Trim(f[2], "-"), alone: fields(f[3]), valued: fields(f[4])}
		fmt.Sscanf(f[5], "%d to %d", &e.least, &e.most)
		e.flagWord = regexp.MustCompile(`(?s)^-` + oneOf(e.alone) + `*(?:(` + oneOf(e.valued) + `)(.*))?`)
		pattern := "^"
		for _, letter := range e.letters() {
			pattern += letter + "?"
		}
		e.inOrder = regexp.MustCompile(pattern + "$")
		all = append(all, e)
	}
	return all
}

func fields(text string) []string {
	if text == "-" {
		return nil
	}
	return strings.Fields(text)
}

// oneOf of no letters matches nothing.
func oneOf(letters []string) string {
	if len(letters) == 0 {
		return `[^\x00-\x{10FFFF}]`
	}
	return "[" + strings.Join(letters, "") + "]"
}

// letters are all flags of the command, rising.
func (e entry) letters() []string {
	all := slices.Concat(e.alone, e.valued)
	slices.Sort(all)
	return all
}

func (e entry) takes(letter string) bool { return slices.Contains(e.valued, letter) }

// wide has a character for each byte, so that an expression reads bytes.
func wide(s string) string {
	var out []rune
	for i := range len(s) {
		out = append(out, rune(s[i]))
	}
	return string(out)
}

func narrow(s string) string {
	var out []byte
	for _, r := range s {
		out = append(out, byte(r))
	}
	return string(out)
}

// meant gives the rows that a word may mean; err tells if they are not just one.
func meant(word string) (rows []entry, err api.Errno) {
	for _, e := range entries {
		if word != "" && (e.name == word || e.alias == word) {
			return []entry{e}, api.OK
		}
		if at := strings.Index(e.name, word); at == 0 && word != "" {
			rows = append(rows, e)
		}
	}
	switch len(rows) {
	case 0:
		return nil, api.ErrVerb
	case 1:
		return rows, api.OK
	}
	return rows, api.ErrChoice
}

func expectFind(word string) (int, api.Errno) {
	rows, err := meant(word)
	if err != api.OK {
		return 0, err
	}
	return rows[0].number, api.OK
}

func expectUsage(e entry) string {
	parts := []string{e.name}
	if e.alias != "" {
		parts = append(parts, "("+e.alias+")")
	}
	if len(e.alone) > 0 {
		parts = append(parts, "[-"+strings.Join(e.alone, "")+"]")
	}
	for _, letter := range e.valued {
		parts = append(parts, "[-"+letter+" value]")
	}
	for range e.least {
		parts = append(parts, "word")
	}
	if e.most == e.least+1 {
		parts = append(parts, "[word]")
	}
	if e.most > e.least+1 {
		parts = append(parts, "[word ..]")
	}
	return strings.Join(parts, " ")
}

// answer is what Read answers.
type answer struct {
	command api.Command
	about   string
	err     api.Errno
}

func (a answer) String() string {
	return fmt.Sprintf("%s, about %q, error %d", told(a.command), a.about, a.err)
}

// told is the same of commands that are the same: nil and the empty list are.
func told(c api.Command) string { return fmt.Sprintf("%d %q %q", c.Verb, c.Flags, c.Words) }

func read(words []string) answer {
	c, about, err := Read(words)
	return answer{c, about, err}
}

func fails(about string, err api.Errno) answer { return answer{api.Command{}, about, err} }

func expectRead(words []string) answer {
	if len(words) == 0 {
		return fails("", api.ErrArg)
	}
	rows, err := meant(words[0])
	if err != api.OK {
		return fails(words[0], err)
	}
	return rows[0].expectRead(words[1:])
}

func (e entry) expectRead(rest []string) answer {
	values := map[string]string{}
	for len(rest) > 0 && len(rest[0]) > 1 && strings.HasPrefix(rest[0], "-") {
		word := rest[0]
		rest = rest[1:]
		if word == "--" {
			break
		}
		got := e.flagWord.FindStringSubmatch(wide(word))
		good, letter, value := narrow(got[0]), got[1], narrow(got[2])
		if len(good) < len(word) {
			return fails("-"+word[len(good):len(good)+1], api.ErrFlag)
		}
		if letter != "" && value == "" && len(rest) == 0 {
			return fails("-"+letter, api.ErrNeeds)
		}
		for _, alone := range strings.Split(good[1:], "") {
			if alone == letter {
				break
			}
			values[alone] = ""
		}
		if letter != "" && value == "" {
			value, rest = rest[0], rest[1:]
		}
		if letter != "" {
			values[letter] = value
		}
	}
	if len(rest) < e.least || len(rest) > e.most {
		return fails(e.name, api.ErrCount)
	}
	c := api.Command{Verb: e.number, Words: rest}
	for _, letter := range e.letters() {
		if value, there := values[letter]; there {
			c.Flags = append(c.Flags, api.Flag{Letter: letter, Value: value})
		}
	}
	return answer{c, "", api.OK}
}

func expectWords(c api.Command) ([]string, api.Errno) {
	if c.Verb < 1 || c.Verb > len(entries) {
		return nil, api.ErrVerb
	}
	e := entries[c.Verb-1]
	words, letters, long, needless := []string{e.name}, "", false, false
	for _, f := range c.Flags {
		letters += f.Letter
		long = long || len(f.Letter) != 1
		needless = needless || !e.takes(f.Letter) && f.Value != ""
		words = append(words, "-"+f.Letter)
		if e.takes(f.Letter) {
			words = append(words, f.Value)
		}
	}
	switch {
	case long || !e.inOrder.MatchString(letters):
		return nil, api.ErrFlag
	case needless:
		return nil, api.ErrValue
	case len(c.Words) < e.least || len(c.Words) > e.most:
		return nil, api.ErrCount
	}
	if len(c.Words) > 0 && regexp.MustCompile(`(?s)^-.`).MatchString(c.Words[0]) {
		words = append(words, "--")
	}
	return append(words, c.Words...), api.OK
}

func holdRead(t *testing.T, words []string) {
	t.Helper()
	if got, want := read(words), expectRead(words); got.String() != want.String() {
		t.Fatalf("Read(%q): %v, and not %v", words, got, want)
	}
}

func holdWords(t *testing.T, c api.Command) {
	t.Helper()
	got, err := Words(c)
	want, wantErr := expectWords(c)
	if !slices.Equal(got, want) || err != wantErr {
		t.Fatalf("Words(%s): %q, error %d, and not %q, error %d", told(c), got, err, want, wantErr)
	}
}
