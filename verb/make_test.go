package verb

import (
	"math/rand"
	"slices"
	"strings"

	"mullion/api"
)

// maker makes words and commands by chance, the same ones of the same seed.
type maker struct{ *rand.Rand }

func newMaker(seed int64) maker { return maker{rand.New(rand.NewSource(seed))} }

func pick[T any](m maker, list ...T) T { return list[m.Intn(len(list))] }

func (m maker) entry() entry { return entries[m.Intn(len(entries))] }

// word is any word, most often one that a reader of flags may trip over.
func (m maker) word() string {
	switch m.Intn(4) {
	case 0:
		return pick(m, "", "-", "--", "---", "x", "-1", "=", "%1", "a b")
	case 1:
		return "-" + m.bytes("tldhPxF-", 4)
	case 2:
		return m.bytes("-tx \n\x00\xff\xc3\xa4", 5)
	}
	return m.bytes("abc", 3)
}

func (m maker) bytes(from string, most int) string {
	var b strings.Builder
	for range m.Intn(most + 1) {
		b.WriteByte(from[m.Intn(len(from))])
	}
	return b.String()
}

// command is one that Words takes.
func (m maker) command() api.Command {
	e := m.entry()
	c := api.Command{Verb: e.number}
	for _, letter := range e.letters() {
		if m.Intn(2) == 0 {
			continue
		}
		f := api.Flag{Letter: letter}
		if e.takes(letter) {
			f.Value = m.word()
		}
		c.Flags = append(c.Flags, f)
	}
	for range e.least + m.Intn(min(e.most-e.least, 4)+1) {
		c.Words = append(c.Words, m.word())
	}
	return c
}

// spoil makes most commands ones that Words refuses.
func (m maker) spoil(c api.Command) api.Command {
	for range 1 + m.Intn(2) {
		switch m.Intn(7) {
		case 0:
			c.Verb = pick(m, -1, 0, 33, 1+m.Intn(32), 1+m.Intn(32))
		case 1:
			c.Flags = slices.Insert(c.Flags, m.Intn(len(c.Flags)+1), api.Flag{Letter: m.bytes("tldhPbF-\xff", 2), Value: m.bytes("xy", 1)})
		case 2:
			if len(c.Flags) > 0 {
				c.Flags[m.Intn(len(c.Flags))].Value = "x"
			}
		case 3:
			c.Words = append(c.Words, m.word())
		case 4:
			c.Words = nil
		case 5:
			m.Shuffle(len(c.Flags), func(i, j int) { c.Flags[i], c.Flags[j] = c.Flags[j], c.Flags[i] })
		case 6:
			if len(c.Flags) > 0 {
				c.Flags = append(c.Flags, c.Flags[len(c.Flags)-1])
			}
		}
	}
	return c
}

// spelt says a command in words, in one of the many ways that mean it: by
// name, alias or beginning, flags in any order, some of them twice, letters
// together and apart, values in their flag's word and behind it.
func (m maker) spelt(c api.Command) []string {
	e := entries[c.Verb-1]
	words := []string{m.called(e)}
	flags := slices.Clone(c.Flags)
	for i := len(flags) - 1; i >= 0; i-- {
		if m.Intn(3) == 0 {
			flags = append(flags, flags[i])
			flags[i].Value = m.wasted(e, flags[i].Letter)
		}
	}
	m.shuffleKeepingLast(flags)
	open := ""
	for _, f := range flags {
		if open == "" || m.Intn(2) == 0 {
			words = appendSome(words, open)
			open = "-"
		}
		open += f.Letter
		if !e.takes(f.Letter) {
			continue
		}
		if f.Value != "" && m.Intn(2) == 0 {
			words = append(words, open+f.Value)
		} else {
			words = append(words, open, f.Value)
		}
		open = ""
	}
	words = appendSome(words, open)
	if len(c.Words) > 0 && len(c.Words[0]) > 1 && c.Words[0][0] == '-' || m.Intn(4) == 0 {
		words = append(words, "--")
	}
	return append(words, c.Words...)
}

// called is the name, the alias, or a beginning that means the command.
func (m maker) called(e entry) string {
	for {
		word := pick(m, e.name, e.alias, e.name[:m.Intn(len(e.name))])
		if number, err := expectFind(word); err == api.OK && number == e.number {
			return word
		}
	}
}

// wasted is a value that a later one takes the place of.
func (m maker) wasted(e entry, letter string) string {
	if e.takes(letter) {
		return m.word()
	}
	return ""
}

// shuffleKeepingLast puts flags in any order, but of each letter the one that
// stood last stands last again.
func (m maker) shuffleKeepingLast(flags []api.Flag) {
	last := map[string]string{}
	for _, f := range flags {
		last[f.Letter] = f.Value
	}
	m.Shuffle(len(flags), func(i, j int) { flags[i], flags[j] = flags[j], flags[i] })
	done := map[string]bool{}
	for i := len(flags) - 1; i >= 0; i-- {
		if !done[flags[i].Letter] {
			done[flags[i].Letter] = true
			flags[i].Value = last[flags[i].Letter]
		}
	}
}

func appendSome(words []string, word string) []string {
	if word == "" {
		return words
	}
	return append(words, word)
}
