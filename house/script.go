package house

import (
	"strings"

	"mullion/api"
	"mullion/octal"
)

const blank = " "

// form is how a script says something: a word, and behind it what it names.
// Reading and writing both go by it, so that they can't differ.
type form struct {
	word    string
	numbers []*int
	text    *string // nil: no text stands behind the numbers
}

func configForm(c *api.Config) form {
	return form{word: "server", numbers: []*int{&c.W, &c.H, &c.Tail}}
}

// entryForm goes by the entry's kind; a form without a word, if no script says that kind.
func entryForm(e *api.Entry) form {
	switch e.Kind {
	case api.InAttach:
		return form{word: "attach", numbers: []*int{&e.Client, &e.N}}
	case api.InDetach:
		return form{word: "detach", numbers: []*int{&e.Client}}
	case api.InInput:
		return form{word: "input", numbers: []*int{&e.Client}, text: &e.Text}
	case api.InDrain:
		return form{word: "drain", numbers: []*int{&e.Client, &e.N}}
	case api.InOutput:
		return form{word: "output", numbers: []*int{&e.Pane}, text: &e.Text}
	case api.InDone:
		return form{word: "done", numbers: []*int{&e.Pane}}
	case api.InTick:
		return form{word: "tick"}
	}
	return form{}
}

// parts is how many parts its line has. The last one holds all blanks that are
// left: a text may have them, and no number and no word has.
func (f form) parts() int {
	if f.text == nil {
		return 1 + len(f.numbers)
	}
	return 2 + len(f.numbers)
}

// read fills in what the form names; false: the line is none of this form.
func (f form) read(line string) bool {
	parts := strings.SplitN(line, blank, f.parts())
	if len(parts) != f.parts() || parts[0] != f.word {
		return false
	}
	for i, n := range f.numbers {
		value, ok := octal.Number(parts[1+i])
		if !ok {
			return false
		}
		*n = value
	}
	if f.text == nil {
		return true
	}
	text, err := octal.Unescape(parts[len(parts)-1])
	*f.text = text
	return err == api.OK
}

// hasLine tells whether all its numbers can be written.
func (f form) hasLine() bool {
	for _, n := range f.numbers {
		if *n < 0 || *n > api.MaxNumber {
			return false
		}
	}
	return true
}

// isSayable tells whether a script says entries of that kind, and nothing is
// said beside what the kind names.
func isSayable(e api.Entry) bool {
	f := entryForm(&e)
	for _, n := range f.numbers {
		*n = 0
	}
	if f.text != nil {
		*f.text = ""
	}
	return f.word != "" && e == api.Entry{Kind: e.Kind}
}

// write gives the lines of forms. A text that is too long is not even escaped.
func write(forms []form) (string, api.Errno) {
	var b book
	for _, f := range forms {
		if f.text != nil && len(*f.text) > api.MaxScript {
			return "", api.ErrLong
		}
		b.form(f)
		if b.Len() > api.MaxScript {
			return "", api.ErrLong
		}
	}
	return b.String(), api.OK
}

// script is what was read of one.
type script struct {
	begun   bool // the server line was there
	config  api.Config
	entries []api.Entry
}

// take takes the next line.
func (s *script) take(line string) api.Errno {
	if line == "" || line[0] == '#' {
		return api.OK
	}
	if !s.begun {
		return s.begin(line)
	}
	e, ok := readEntry(line)
	switch {
	case !ok:
		return api.ErrScript
	case len(s.entries) == api.MaxEntries:
		return api.ErrFull
	}
	s.entries = append(s.entries, e)
	return api.OK
}

func (s *script) begin(line string) api.Errno {
	s.begun = configForm(&s.config).read(line)
	if !s.begun {
		return api.ErrScript
	}
	return api.OK
}

// readEntry tries all kinds: no line is one of two.
func readEntry(line string) (api.Entry, bool) {
	for kind := api.InAttach; kind <= api.InTick; kind++ {
		e := api.Entry{Kind: kind}
		if entryForm(&e).read(line) {
			return e, true
		}
	}
	return api.Entry{}, false
}
