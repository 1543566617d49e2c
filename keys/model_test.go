package keys

import (
	"regexp"
	"strconv"
	"strings"

	"mullion/api"
)

// row is a key as the chapter's lists tell it.
type row struct {
	key              api.Key
	name, plain, app string
}

// specialSheet is the special keys by rising Code: the name, the bytes without
// Mods, those with application keys, those with Mods (# is Mods + 1).
const specialSheet = `
Up       ^[[A   ^[OA   ^[[1;#A
Down     ^[[B   ^[OB   ^[[1;#B
Right    ^[[C   ^[OC   ^[[1;#C
Left     ^[[D   ^[OD   ^[[1;#D
Home     ^[[H   ^[OH   ^[[1;#H
End      ^[[F   ^[OF   ^[[1;#F
Insert   ^[[2~  ^[[2~  ^[[2;#~
Delete   ^[[3~  ^[[3~  ^[[3;#~
PageUp   ^[[5~  ^[[5~  ^[[5;#~
PageDown ^[[6~  ^[[6~  ^[[6;#~
F1       ^[OP   ^[OP   ^[[1;#P
F2       ^[OQ   ^[OQ   ^[[1;#Q
F3       ^[OR   ^[OR   ^[[1;#R
F4       ^[OS   ^[OS   ^[[1;#S
F5       ^[[15~ ^[[15~ ^[[15;#~
F6       ^[[17~ ^[[17~ ^[[17;#~
F7       ^[[18~ ^[[18~ ^[[18;#~
F8       ^[[19~ ^[[19~ ^[[19;#~
F9       ^[[20~ ^[[20~ ^[[20;#~
F10      ^[[21~ ^[[21~ ^[[21;#~
F11      ^[[23~ ^[[23~ ^[[23;#~
F12      ^[[24~ ^[[24~ ^[[24;#~
`

// otherSheet is the forms that are read and never written.
const otherSheet = `
Home ^[[1~
End  ^[[4~
F1   ^[[11~
F2   ^[[12~
F3   ^[[13~
F4   ^[[14~
`

// controlSheet is the control characters by the bytes 1 to 31; those of other
// keys are left out by a dot.
const controlSheet = `abcdefgh.jkl.nopqrstuvwxyz.\]^_`

// prefixes are what stands ahead of a name, by Mods.
var prefixes = [8]string{"", "S-", "M-", "M-S-", "C-", "C-S-", "C-M-", "C-M-S-"}

func sheetRows(sheet string) [][]string {
	var rows [][]string
	for line := range strings.Lines(sheet) {
		if fields := strings.Fields(strings.ReplaceAll(line, "^[", "\x1b")); len(fields) > 0 {
			rows = append(rows, fields)
		}
	}
	return rows
}

func specialRows() []row {
	var rows []row
	for i, f := range sheetRows(specialSheet) {
		code := 1<<24 + 1 + i
		rows = append(rows, row{api.Key{Code: code}, f[0], f[1], f[2]})
		for mods := 1; mods <= 7; mods++ {
			told := strings.Replace(f[3], "#", strconv.Itoa(mods+1), 1)
			rows = append(rows, row{api.Key{Code: code, Mods: mods}, prefixes[mods] + f[0], told, told})
		}
	}
	return append(rows, row{api.Key{Code: 1<<24 + 23}, "BTab", "\x1b[Z", "\x1b[Z"})
}

// bothRows is a key with and without ModMeta; mods are those beside it.
func bothRows(code, mods int, name, told string) []row {
	return []row{
		{api.Key{Code: code, Mods: mods}, prefixes[mods] + name, told, told},
		{api.Key{Code: code, Mods: mods + 2}, prefixes[mods+2] + name, "\x1b" + told, "\x1b" + told},
	}
}

func oneByteRows() []row {
	rows := bothRows(32, 0, "Space", " ")
	rows = append(rows, bothRows(32, 4, "Space", "\x00")...)
	rows = append(rows, bothRows(13, 0, "Enter", "\r")...)
	rows = append(rows, bothRows(9, 0, "Tab", "\t")...)
	rows = append(rows, bothRows(27, 0, "Escape", "\x1b")...)
	rows = append(rows, bothRows(127, 0, "BSpace", "\x7f")...)
	for i := range len(controlSheet) {
		if code := int(controlSheet[i]); code != '.' {
			rows = append(rows, bothRows(code, 4, controlSheet[i:i+1], string([]byte{byte(i + 1)}))...)
		}
	}
	return rows
}

// characterRows is a character with and without ModMeta; none, if the code is
// that of no character.
func characterRows(code int) []row {
	if code < 33 || code == 127 || code > 127 && code < 160 || code > 1114111 || code >= 55296 && code <= 57343 {
		return nil
	}
	text := encoded(code)
	return bothRows(code, 0, text, text)
}

// encoded is a code point in UTF-8, by the bits.
func encoded(code int) string {
	tail := func(shift int) byte { return byte(128 | code>>shift&63) }
	switch {
	case code < 1<<7:
		return string([]byte{byte(code)})
	case code < 1<<11:
		return string([]byte{byte(192 | code>>6), tail(0)})
	case code < 1<<16:
		return string([]byte{byte(224 | code>>12), tail(6), tail(0)})
	}
	return string([]byte{byte(240 | code>>18), tail(12), tail(6), tail(0)})
}

// decoded is the code point of a character of two bytes or more.
func decoded(text string) int {
	code := int(text[0]) & (127 >> len(text))
	for i := 1; i < len(text); i++ {
		code = code<<6 | int(text[i])&63
	}
	return code
}

// fewRows is all keys but the characters beyond 126.
func fewRows() []row {
	rows := append(specialRows(), oneByteRows()...)
	for code := range 127 {
		rows = append(rows, characterRows(code)...)
	}
	return rows
}

// book is what is looked up again and again.
type book struct {
	few    []row
	byKey  map[api.Key]row
	byName map[string]row
	// told is keys by their bytes, the forms that are never written too.
	told map[string]api.Key
}

var chapter = newBook()

func newBook() *book {
	b := &book{few: fewRows(), byKey: map[api.Key]row{}, byName: map[string]row{}, told: map[string]api.Key{}}
	for _, r := range b.few {
		b.byKey[r.key], b.byName[r.name] = r, r
		b.told[r.plain], b.told[r.app] = r.key, r.key
	}
	for _, f := range sheetRows(otherSheet) {
		b.told[f[1]] = b.byName[f[0]].key
	}
	return b
}

// rowByText is the row of a key; it has no name, if the key is none.
func rowByText(k api.Key) row {
	if r, ok := chapter.byKey[k]; ok {
		return r
	}
	for _, r := range characterRows(k.Code) {
		if r.key == k {
			return r
		}
	}
	return row{}
}

var characterName = regexp.MustCompile(`^(M-)?([^\x00-\x{9f}])$`)

// keyByText is the key of a name, and whether there is one.
func keyByText(name string) (api.Key, bool) {
	if r, ok := chapter.byName[name]; ok {
		return r.key, true
	}
	if m := characterName.FindStringSubmatch(name); m != nil {
		for _, r := range characterRows(int([]rune(m[2])[0])) {
			if r.name == name {
				return r.key, true
			}
		}
	}
	return api.Key{}, false
}

// What the bytes of characters look like, whole and begun.
const (
	manyBytes  = `(?:[\xc2-\xdf]|\xe0[\xa0-\xbf]|[\xe1-\xec\xee\xef][\x80-\xbf]|\xed[\x80-\x9f]|\xf0[\x90-\xbf][\x80-\xbf]|[\xf1-\xf3][\x80-\xbf][\x80-\xbf]|\xf4[\x80-\x8f][\x80-\xbf])[\x80-\xbf]`
	begunBytes = `(?:[\xc2-\xf4]|\xe0[\xa0-\xbf]|[\xe1-\xec\xee\xef][\x80-\xbf]|\xed[\x80-\x9f]|\xf0[\x90-\xbf]|[\xf1-\xf3][\x80-\xbf]|\xf4[\x80-\x8f]|\xf0[\x90-\xbf][\x80-\xbf]|[\xf1-\xf3][\x80-\xbf][\x80-\xbf]|\xf4[\x80-\x8f][\x80-\xbf])`
)

// form is one way in which what comes can be read: the first one that fits counts.
// It is asked only where its head stands: the long ones take time.
type form struct {
	head string
	look *regexp.Regexp
	key  func(told string) (api.Key, bool)
	held bool
}

func looks(expr string) *regexp.Regexp {
	re := regexp.MustCompile(`^(?:` + expr + `)`)
	re.Longest()
	return re
}

var forms = []form{
	{head: "\x1b[", look: looks(`\x1b\[[ -?]{0,253}[@-~]`), key: listed},
	{head: "\x1b[", look: looks(`\x1b\[[ -?]{254}`), key: nothing},
	{head: "\x1b[", look: looks(`\x1b\[[ -?]{0,253}$`), held: true},
	{head: "\x1b[", look: looks(`\x1b\[[ -?]{0,253}`), key: nothing},
	{head: "\x1bO", look: looks(`\x1bO[\x00-\xff]`), key: listed},
	{head: "\x1b", look: looks(`\x1bO?$`), held: true},
	{look: looks(`\x1b?[\x00-\x1a\x1c-\x7f]|\x1b\x1b`), key: listed},
	{look: looks(`\x1b?` + manyBytes), key: spelt},
	{look: looks(`\x1b?` + begunBytes + `$`), held: true},
	{look: looks(`\x1b?` + begunBytes), key: nothing},
	{look: looks(`\x1b?[\x80-\xff]`), key: nothing},
}

func nothing(string) (api.Key, bool) { return api.Key{}, false }

func listed(told string) (api.Key, bool) {
	k, ok := chapter.told[told]
	return k, ok
}

func spelt(told string) (api.Key, bool) {
	text, meta := strings.CutPrefix(told, "\x1b")
	k := api.Key{Code: decoded(text)}
	if meta {
		k.Mods = 2
	}
	return k, k.Code >= 160
}

// broad lets each byte be one letter, so that regular expressions see bytes.
func broad(text string) string {
	letters := make([]rune, len(text))
	for i := range letters {
		letters[i] = rune(text[i])
	}
	return string(letters)
}

// readByText is the keys that a text tells, and what is held behind it.
func readByText(text string) ([]api.Key, string) {
	var told []api.Key
	for text != "" {
		// No form has more bytes than a sequence may have and one.
		seen := broad(text[:min(len(text), 257)])
		for _, f := range forms {
			if !strings.HasPrefix(seen, f.head) || !f.look.MatchString(seen) {
				continue
			}
			if f.held {
				return told, text
			}
			n := len([]rune(f.look.FindString(seen)))
			if k, ok := f.key(text[:n]); ok {
				told = append(told, k)
			}
			text = text[n:]
			break
		}
	}
	return told, ""
}

// flushedByText is the keys that Flush tells of what is held.
func flushedByText(held string) []api.Key {
	if held == "\x1b" {
		return []api.Key{{Code: 27}}
	}
	told, rest := []api.Key{}, held
	if strings.HasPrefix(rest, "\x1b") && rest[1] < 128 {
		told = append(told, chapter.told[rest[:2]])
		rest = rest[2:]
	}
	for rest != "" && rest[0] < 127 && rest[0] > 31 {
		told = append(told, chapter.told[rest[:1]])
		rest = rest[1:]
	}
	return told
}
