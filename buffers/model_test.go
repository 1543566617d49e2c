package buffers

import (
	"regexp"
	"slices"
	"strconv"
	"strings"

	"mullion/api"
)

// wordForm is a name without blanks: DOC.md's section Words.
var wordForm = regexp.MustCompile(`\A[^\x00-\x20.:$@%=+\-!^{\x7f-\x{10ffff}][^\x00-\x20.:\x7f-\x{10ffff}]{0,31}\z`)

// sheet is a buffer as the book knows it: not where it stands, but when it was laid in.
type sheet struct {
	text   string
	laid   int
	nobody bool // it was made without a name
}

// book is all buffers by their names, of which the order is asked anew each time.
type book struct {
	sheets  map[string]sheet
	clock   int
	limit   int
	counter int
}

func newBook() *book { return &book{sheets: map[string]sheet{}, limit: 20} }

func (b *book) forked() *book {
	f := *b
	f.sheets = map[string]sheet{}
	for name, s := range b.sheets {
		f.sheets[name] = s
	}
	return &f
}

// names are those of the sheets that fit, the one that was laid in last first.
func (b *book) names(fits func(sheet) bool) []string {
	var list []string
	for name, s := range b.sheets {
		if fits(s) {
			list = append(list, name)
		}
	}
	slices.SortFunc(list, func(x, y string) int { return b.sheets[y].laid - b.sheets[x].laid })
	return list
}

func (b *book) autos() []string { return b.names(func(s sheet) bool { return s.nobody }) }
func (b *book) named() []string { return b.names(func(s sheet) bool { return !s.nobody }) }
func (b *book) every() []string { return b.names(func(sheet) bool { return true }) }

func (b *book) lay(name, text string, nobody bool) {
	b.clock++
	b.sheets[name] = sheet{text, b.clock, nobody}
}

func (b *book) letGo() {
	for _, name := range b.autos()[min(len(b.autos()), b.limit):] {
		delete(b.sheets, name)
	}
}

func (b *book) set(name, text string) (string, api.Errno) {
	if len(text) > 65536 {
		return "", 2
	}
	if name == "" {
		for b.has("buffer" + strconv.Itoa(b.counter)) {
			b.counter++
		}
		name = "buffer" + strconv.Itoa(b.counter)
		b.counter++
		b.lay(name, text, true)
		b.letGo()
		return name, 0
	}
	if !wordForm.MatchString(name) {
		return "", 73
	}
	if !b.has(name) && len(b.named()) == 20 {
		return "", 3
	}
	b.lay(name, text, b.sheets[name].nobody)
	return name, 0
}

func (b *book) has(name string) bool {
	_, is := b.sheets[name]
	return is
}

// meant is the name of the buffer that is meant.
func (b *book) meant(name string) (string, bool) {
	if name == "" {
		for _, list := range [][]string{b.autos(), b.every()} {
			if len(list) > 0 {
				return list[0], true
			}
		}
		return "", false
	}
	return name, b.has(name)
}

func (b *book) get(name string) (api.Buffer, api.Errno) {
	name, is := b.meant(name)
	if !is {
		return api.Buffer{}, 240
	}
	return api.Buffer{Name: name, Text: b.sheets[name].text}, 0
}

func (b *book) del(name string) api.Errno {
	name, is := b.meant(name)
	if !is {
		return 240
	}
	delete(b.sheets, name)
	return 0
}

func (b *book) rename(name, to string) api.Errno {
	name, is := b.meant(name)
	if !is {
		return 240
	}
	if !wordForm.MatchString(to) {
		return 73
	}
	if to != name && b.has(to) {
		return 74
	}
	if b.sheets[name].nobody && len(b.named()) == 20 {
		return 3
	}
	s := b.sheets[name]
	s.nobody = false
	delete(b.sheets, name)
	b.sheets[to] = s
	return 0
}

func (b *book) list() []api.Buffer {
	var list []api.Buffer
	for _, name := range b.every() {
		list = append(list, api.Buffer{Name: name, Text: b.sheets[name].text})
	}
	return list
}

func (b *book) setLimit(n int) api.Errno {
	if n < 1 || n > 20 {
		return 1
	}
	b.limit = n
	b.letGo()
	return 0
}

// pasted reads a text byte by byte, and steps over a mark where one begins.
func pasted(text, between string, bracket bool) string {
	const mark = "\033\133\062\060\061\176"
	var out []byte
	for at := 0; at < len(text); {
		switch {
		case bracket && strings.HasPrefix(text[at:], mark):
			at += 6
			continue
		case text[at] == 10:
			out = append(out, between...)
		default:
			out = append(out, text[at])
		}
		at++
	}
	if bracket {
		return "\033\133\062\060\060\176" + string(out) + mark
	}
	return string(out)
}
