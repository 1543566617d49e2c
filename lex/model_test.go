package lex

import (
	"fmt"
	"math/rand"
	"regexp"
	"strconv"
	"strings"
	"testing"
	"unicode/utf8"

	"mullion/api"
)

// The chapter as regular expressions: they run over a text in which each byte
// of the line is one character.
var (
	blanks     = regexp.MustCompile(`^[ \t]+`)
	remark     = regexp.MustCompile(`(?s)^#(?:[^{].*)?$`)
	pieces     = `'[^']*'|"(?:[^"\\]|\\.)*"|\\.|[^ \t;'"\\]`
	wholeWord  = regexp.MustCompile(`(?s)^(?:` + pieces + `)*`)
	onePiece   = regexp.MustCompile(`(?s)` + pieces)
	anEscape   = regexp.MustCompile(`(?s)\\([0-3][0-7][0-7]|.)`)
	plainWord  = regexp.MustCompile(`^[A-Za-z0-9_./:=@%+,-]+$`)
	shortForms = map[string]string{"n": "\n", "t": "\t", "r": "\r", "e": "\x1b"}
)

func wide(s string) string {
	var out []rune
	for i := range len(s) {
		out = append(out, rune(s[i]))
	}
	return string(out)
}

func narrow(s string) string {
	var out []byte
	for _, r := range s {
		out = append(out, byte(r))
	}
	return string(out)
}

// What a line is read as.
type answer struct {
	commands [][]string
	place    int
	err      api.Errno
}

func (a answer) String() string { return fmt.Sprintf("%q, %d, error %d", a.commands, a.place, a.err) }

func same(a, b answer) bool { return a.String() == b.String() }

func read(line string) answer {
	c, n, err := Commands(line)
	return answer{c, n, err}
}

// valueOf says which bytes a word of these pieces has.
func valueOf(word string) string {
	return narrow(onePiece.ReplaceAllStringFunc(word, func(p string) string {
		switch p[0] {
		case '\'':
			return p[1 : len(p)-1]
		case '"':
			return anEscape.ReplaceAllStringFunc(p[1:len(p)-1], behindBackslash)
		case '\\':
			return p[1:]
		}
		return p
	}))
}

func behindBackslash(escape string) string {
	if v, err := strconv.ParseUint(escape[1:], 8, 8); err == nil && len(escape) == 4 {
		return string(rune(v))
	}
	if short, ok := shortForms[escape[1:]]; ok {
		return short
	}
	return escape[1:]
}

// expect says what the chapter asks of a line, and whether it has a remark.
func expect(line string) (answer, bool) {
	if len(line) > api.MaxLine {
		return answer{err: api.ErrLong}, false
	}
	all := wide(line)
	rest, command, out, words, remarked := all, []string(nil), answer{}, 0, false
	end := func() {
		if len(command) > 0 {
			out.commands = append(out.commands, command)
		}
		command = nil
	}
	for {
		rest = rest[len(blanks.FindString(rest)):]
		if remark.MatchString(rest) {
			rest, remarked = "", true
		}
		if rest == "" {
			break
		}
		if rest[0] == ';' {
			end()
			rest = rest[1:]
			continue
		}
		word := wholeWord.FindString(rest)
		rest = rest[len(word):]
		if rest != "" && !strings.ContainsAny(rest[:1], " \t;") {
			return answer{place: utf8.RuneCountInString(all) - utf8.RuneCountInString(rest), err: api.ErrQuote}, false
		}
		command, words = append(command, valueOf(word)), words+1
	}
	end()
	if words > api.MaxWords || len(out.commands) > api.MaxCommands {
		return answer{err: api.ErrWords}, remarked
	}
	return out, remarked
}

// hold holds a line's reading against what the chapter asks of it.
func hold(t *testing.T, line string) answer {
	t.Helper()
	want, _ := expect(line)
	got := read(line)
	if !same(got, want) {
		t.Fatalf("%q is read as %v, and should be %v", line, got, want)
	}
	return got
}

// wantCommands: the line has just these commands.
func wantCommands(t *testing.T, line string, want ...[]string) {
	t.Helper()
	if got := read(line); !same(got, answer{commands: want}) {
		t.Fatalf("%q is read as %v, and should be %q", line, got, want)
	}
}

// wantError: the line has no commands, but that error at that place.
func wantError(t *testing.T, line string, place int, err api.Errno) {
	t.Helper()
	if got := read(line); len(got.commands) != 0 || got.place != place || got.err != err {
		if len(line) > 80 {
			line = line[:40] + " ... " + line[len(line)-30:]
		}
		t.Errorf("%q is read as %v, and should be the error %d at %d", line, got, err, place)
	}
}

func of(words ...string) []string { return words }

// A maker makes commands and the lines that spell them, by chance.
type maker struct{ *rand.Rand }

func newMaker(seed int64) maker { return maker{rand.New(rand.NewSource(seed))} }

func (m maker) chance(percent int) bool { return m.Intn(100) < percent }

// The bytes that mean something to the reader come often.
const telling = " \t;#{'\"\\01234789ntreaZ}\n\x00\x1b\x7f\xff\xc3\xa9"

func (m maker) byte() byte {
	if m.chance(15) {
		return byte(m.Intn(256))
	}
	return telling[m.Intn(len(telling))]
}

func (m maker) bytes(most int) string {
	b := make([]byte, m.Intn(most+1))
	for i := range b {
		b[i] = m.byte()
	}
	return string(b)
}

func (m maker) blanks(least int) string {
	n := least
	for m.chance(30) {
		n++
	}
	b := make([]byte, n)
	for i := range b {
		b[i] = " \t"[m.Intn(2)]
	}
	return string(b)
}

// commands gives lists of words, none of them empty, within the limits.
func (m maker) commands() [][]string {
	var out [][]string
	for range m.Intn(6) {
		var words []string
		for range 1 + m.Intn(5) {
			words = append(words, m.bytes(7))
		}
		out = append(out, words)
	}
	return out
}

// spell writes a word as pieces, each of one of the kinds that can have its bytes.
func (m maker) spell(word string) string {
	var out string
	for word != "" || out == "" {
		n := m.Intn(len(word) + 1)
		part := word[:n]
		word = word[n:]
		switch m.Intn(4) {
		case 0:
			out += "'" + strings.ReplaceAll(part, "'", `'\''`) + "'"
		case 1:
			out += `"` + m.doubled(part) + `"`
		case 2:
			for i := range len(part) {
				out += `\` + part[i:i+1]
			}
		case 3:
			out += m.unquoted(part, out == "")
		}
	}
	return out
}

// doubled writes bytes as they may stand in double quotes.
func (m maker) doubled(part string) string {
	var out string
	for i := range len(part) {
		b := part[i]
		at := strings.IndexByte("\n\t\r\x1b", b)
		switch {
		case at >= 0 && m.chance(50):
			out += `\` + "ntre"[at:at+1]
		case m.chance(20):
			out += fmt.Sprintf(`\%03o`, b)
		case b == '"' || b == '\\' || m.chance(20) && strings.IndexByte("ntre01234567", b) < 0:
			out += `\` + string([]byte{b})
		default:
			out += string([]byte{b})
		}
	}
	return out
}

// unquoted writes bytes as they may stand without quotes.
func (m maker) unquoted(part string, first bool) string {
	var out string
	for i := range len(part) {
		b := part[i]
		if strings.IndexByte(" \t;'\"\\", b) >= 0 || b == '#' && first && i == 0 {
			out += `\`
		}
		out += string([]byte{b})
	}
	return out
}

// line spells commands, with blanks, needless semicolons and a remark at the end.
func (m maker) line(commands [][]string) string {
	out := m.blanks(0)
	for i, c := range commands {
		if i > 0 {
			out += ";"
		}
		for m.chance(10) {
			out += m.blanks(0) + ";"
		}
		out += m.blanks(0)
		for j, w := range c {
			if j > 0 {
				out += m.blanks(1)
			}
			out += m.spell(w)
		}
		out += m.blanks(0)
	}
	if m.chance(20) {
		out += m.blanks(0) + ";"
	}
	if m.chance(20) {
		out += m.blanks(1) + "#" + m.remark()
	}
	return out
}

// remark gives what may stand behind the # of a remark.
func (m maker) remark() string {
	r := m.bytes(9)
	if strings.HasPrefix(r, "{") {
		return " " + r
	}
	return r
}
