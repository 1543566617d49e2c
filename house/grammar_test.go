package house

import (
	"fmt"
	"math/big"
	"math/rand"
	"regexp"
	"strconv"
	"strings"

	"mullion/api"
)

// The tests' own scripts: the chapter's table as a regular expression for each line.

const (
	numberOf = `(0|[1-9][0-9]*)`
	textOf   = `((?:[^\x00-\x1f\\]|\\0[0-3][0-7]|\\134)*)`
)

// row is a line of the chapter's table: where the numbers go, and whether a text stands behind.
type row struct {
	kind  int
	word  string
	names string // C, P, N or T: Client, Pane, N, Text; W, H and L are a server's own
	line  *regexp.Regexp
}

func rows() []row {
	l := []row{
		{kind: 0, word: "server", names: "WHL"},
		{kind: 1, word: "attach", names: "CN"},
		{kind: 2, word: "detach", names: "C"},
		{kind: 3, word: "input", names: "CT"},
		{kind: 4, word: "drain", names: "CN"},
		{kind: 5, word: "output", names: "PT"},
		{kind: 6, word: "done", names: "P"},
		{kind: 7, word: "tick"},
	}
	for i, r := range l {
		pattern := `\A` + r.word
		for _, name := range r.names {
			if name == 'T' {
				pattern += " " + textOf
			} else {
				pattern += " " + numberOf
			}
		}
		l[i].line = regexp.MustCompile(pattern + `\z`)
	}
	return l
}

var table = rows()

var code = regexp.MustCompile(`\\[0-7]{3}`)

// plain is what an escaped text means.
func plain(text string) string {
	return code.ReplaceAllStringFunc(text, func(c string) string {
		b, _ := strconv.ParseUint(c[1:], 8, 8)
		return string([]byte{byte(b)})
	})
}

// escaped is the escape of a text, byte by byte.
func escaped(text string) string {
	var b strings.Builder
	for i := range len(text) {
		if text[i] < 32 || text[i] == '\\' {
			fmt.Fprintf(&b, `\%03o`, text[i])
		} else {
			b.WriteByte(text[i])
		}
	}
	return b.String()
}

var most = big.NewInt(api.MaxNumber)

// fill reads a line of the row; false: it is none.
func (r row) fill(line string, c *api.Config, e *api.Entry) bool {
	found := r.line.FindStringSubmatch(line)
	if found == nil {
		return false
	}
	e.Kind = r.kind
	places := map[rune]*int{'W': &c.W, 'H': &c.H, 'L': &c.Tail, 'C': &e.Client, 'P': &e.Pane, 'N': &e.N}
	for i, name := range r.names {
		if name == 'T' {
			e.Text = plain(found[1+i])
			continue
		}
		n, _ := new(big.Int).SetString(found[1+i], 10)
		if n.Cmp(most) > 0 {
			return false
		}
		*places[name] = int(n.Int64())
	}
	return true
}

// parsed is all that Parse answers.
type parsed struct {
	c   api.Config
	l   []api.Entry
	n   int
	err api.Errno
}

func (p parsed) String() string {
	return fmt.Sprintf("%v, %d entries %q, line %d, error %d", p.c, len(p.l), fmt.Sprint(p.l), p.n, p.err)
}

func parse(text string) parsed {
	c, l, n, err := Parse(text)
	return parsed{c, l, n, err}
}

// read is what the chapter says of a text.
func read(text string) parsed {
	if len(text) > api.MaxScript {
		return parsed{err: api.ErrLong}
	}
	lines := strings.Split(text, "\n")
	if lines[len(lines)-1] == "" {
		lines = lines[:len(lines)-1]
	}
	var p parsed
	begun := false
	for i, line := range lines {
		if strings.HasPrefix(line+"#", "#") {
			continue
		}
		var e api.Entry
		fits := false
		for _, r := range table {
			fits = fits || (r.kind == 0) != begun && r.fill(line, &p.c, &e)
		}
		switch {
		case !fits:
			return parsed{n: i + 1, err: api.ErrScript}
		case begun && len(p.l) == api.MaxEntries:
			return parsed{n: i + 1, err: api.ErrFull}
		case begun:
			p.l = append(p.l, e)
		}
		begun = true
	}
	if !begun {
		return parsed{n: len(lines), err: api.ErrScript}
	}
	return p
}

// printed is the text of a script.
func printed(c api.Config, l ...api.Entry) string {
	var b strings.Builder
	fmt.Fprintf(&b, "server %d %d %d\n", c.W, c.H, c.Tail)
	for _, e := range l {
		b.WriteString(lineOf(e) + "\n")
	}
	return b.String()
}

func lineOf(e api.Entry) string {
	switch e.Kind {
	case api.InAttach:
		return fmt.Sprintf("attach %d %d", e.Client, e.N)
	case api.InDetach:
		return fmt.Sprintf("detach %d", e.Client)
	case api.InInput:
		return fmt.Sprintf("input %d %s", e.Client, escaped(e.Text))
	case api.InDrain:
		return fmt.Sprintf("drain %d %d", e.Client, e.N)
	case api.InOutput:
		return fmt.Sprintf("output %d %s", e.Pane, escaped(e.Text))
	case api.InDone:
		return fmt.Sprintf("done %d", e.Pane)
	}
	return "tick"
}

// author makes scripts by chance, whether or not a server takes them.
type author struct{ *rand.Rand }

func newAuthor(seed int64) author { return author{rand.New(rand.NewSource(seed))} }

func (a author) number() int {
	switch a.Intn(6) {
	case 0:
		return api.MaxNumber - a.Intn(3)
	case 1:
		return a.Intn(api.MaxNumber)
	}
	return a.Intn(30)
}

func (a author) text() string {
	const letters = "ab%#\\\n\r\t\x00\x1f \x7f\x80\xff012"
	b := make([]byte, a.Intn(12))
	for i := range b {
		b[i] = letters[a.Intn(len(letters))]
	}
	return string(b)
}

func (a author) config() api.Config {
	return api.Config{W: a.number(), H: a.number(), Tail: a.number()}
}

// entry is one that a script says.
func (a author) entry() api.Entry {
	e := api.Entry{Kind: 1 + a.Intn(7)}
	for _, name := range table[e.Kind].names {
		switch name {
		case 'C':
			e.Client = a.number()
		case 'P':
			e.Pane = a.number()
		case 'N':
			e.N = a.number()
		case 'T':
			e.Text = a.text()
		}
	}
	return e
}

func (a author) entries() []api.Entry {
	l := make([]api.Entry, a.Intn(12))
	for i := range l {
		l[i] = a.entry()
	}
	return l
}

// loose is the text of a script with lines that say nothing, and perhaps without its last end.
func (a author) loose(c api.Config, l []api.Entry) string {
	var b strings.Builder
	for _, line := range strings.SplitAfter(printed(c, l...), "\n") {
		for a.Intn(3) == 0 {
			b.WriteString([]string{"\n", "#\n", "# tick\n", "#server 1 1 1\n", "# \\ \x00\xff\n"}[a.Intn(5)])
		}
		b.WriteString(line)
	}
	text := b.String()
	if a.Intn(3) == 0 {
		return strings.TrimSuffix(text, "\n")
	}
	return text
}

// spoilt is a text in which some bytes have come, gone or changed.
func (a author) spoilt(text string) string {
	const letters = " \n\\0189#a%\x00\t\r-"
	b := []byte(text)
	for range 1 + a.Intn(3) {
		at := a.Intn(len(b) + 1)
		letter := letters[a.Intn(len(letters))]
		switch {
		case at == len(b) || a.Intn(3) == 0:
			b = append(b[:at], append([]byte{letter}, b[at:]...)...)
		case a.Intn(2) == 0:
			b = append(b[:at], b[at+1:]...)
		default:
			b[at] = letter
		}
	}
	return string(b)
}
