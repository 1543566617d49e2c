package options

import (
	"regexp"
	"slices"
	"unicode/utf8"

	"mullion/api"
)

// sheet is chapter 23.1: a row an option, with a form of its values.
var sheet = []row{
	{"base-index", 2, "number", `0|[1-9][0-9]{0,3}`, "0"},
	{"buffer-limit", 1, "number", `[1-9]|1[0-9]|20`, "20"},
	{"display-lines", 2, "number", `[1-9]|[1-4][0-9]|50`, "5"},
	{"escape-time", 1, "number", `0|[1-9][0-9]?|100`, "1"},
	{"history-limit", 2, "number", `0|[1-9][0-9]{0,2}|1[0-9]{3}|2000`, "200"},
	{"key-table", 2, "text", ``, "root"},
	{"mode-style", 3, "choice", `plain|reverse|bold`, "reverse"},
	{"monitor-bell", 3, "flag", `on|off`, "on"},
	{"pane-border", 3, "choice", `line|double|blank`, "line"},
	{"prefix", 2, "key", keyForm, "C-b"},
	{"repeat-time", 2, "number", `0|[1-9][0-9]?|100`, "2"},
	{"scroll-keep", 4, "flag", `on|off`, "on"},
	{"set-titles", 2, "flag", `on|off`, "off"},
	{"status", 2, "flag", `on|off`, "on"},
	{"status-left", 2, "text", ``, "[#{session_name}]"},
	{"status-position", 2, "choice", `bottom|top`, "bottom"},
	{"status-right", 2, "text", ``, "#{window_width}x#{window_height}"},
	{"synchronize", 3, "flag", `on|off`, "off"},
	{"window-current-format", 3, "text", ``, "#{window_index}:#{window_name}#{window_flags}"},
	{"window-format", 3, "text", ``, "#{window_index}:#{window_name}#{window_flags}"},
	{"word-separators", 2, "text", ``, "\x20\x2d\x5f\x40"},
	{"wrap-search", 4, "flag", `on|off`, "on"},
}

// keyForm is chapter 21.1's names of keys.
const keyForm = `(M-)?[!-~\x{a0}-\x{d7ff}\x{e000}-\x{10ffff}]` +
	`|(C-)?(M-)?Space` +
	`|C-(M-)?[a-hj-ln-z\\\]^_]` +
	`|(M-)?(Enter|Tab|Escape|BSpace)` +
	`|(C-)?(M-)?(S-)?(Up|Down|Right|Left|Home|End|Insert|Delete|PageUp|PageDown|F[1-9]|F1[0-2])` +
	`|BTab`

type row struct {
	name  string
	scope int
	kind  string
	form  string
	first string
}

var forms = map[string]*regexp.Regexp{}

func init() {
	for _, r := range sheet {
		forms[r.name] = regexp.MustCompile(`\A(` + r.form + `)\z`)
	}
}

// takes tells whether a value is one of the option's kind.
func (r row) takes(value string) bool {
	if r.kind == "text" {
		return len(value) <= 1024
	}
	return utf8.ValidString(value) && forms[r.name].MatchString(value)
}

func rowOf(name string) (row, bool) {
	for _, r := range sheet {
		if r.name == name {
			return r, true
		}
	}
	return row{}, false
}

// book is all that is set as one list, in the order in which it joined.
type book struct{ all []api.Setting }

func (b *book) at(scope, id int, name string) int {
	for i, s := range b.all {
		if s.Scope == scope && s.Id == id && s.Name == name {
			return i
		}
	}
	return -1
}

// refuses is what the four calls have in common: ErrOption, ErrScope, ErrArg.
func refuses(scope, id int, name string) api.Errno {
	r, ok := rowOf(name)
	if !ok {
		return 230
	}
	if r.scope == 4 {
		if scope != 3 && scope != 4 {
			return 231
		}
	} else if scope != r.scope {
		return 231
	}
	if id < 0 || id > 1<<62 {
		return 1
	}
	if scope == 1 && id != 0 {
		return 1
	}
	return 0
}

func (b *book) set(scope, id int, name, value string) api.Errno {
	if err := refuses(scope, id, name); err != 0 {
		return err
	}
	r, _ := rowOf(name)
	if r.kind == "text" && len(value) > 1024 {
		return 2
	}
	if !r.takes(value) {
		return 125
	}
	at := b.at(scope, id, name)
	if at < 0 && len(b.all) == 500 {
		return 3
	}
	s := api.Setting{Scope: scope, Id: id, Name: name, Value: value}
	if at < 0 {
		b.all = append(b.all, s)
	} else {
		b.all[at] = s
	}
	return 0
}

// there is what is set there, or the value at the beginning.
func (b *book) there(scope, id int, name string) string {
	if at := b.at(scope, id, name); at >= 0 {
		return b.all[at].Value
	}
	r, _ := rowOf(name)
	return r.first
}

func (b *book) add(scope, id int, name, value string) api.Errno {
	if err := refuses(scope, id, name); err != 0 {
		return err
	}
	if r, _ := rowOf(name); r.kind != "text" {
		return 125
	}
	return b.set(scope, id, name, b.there(scope, id, name)+value)
}

func (b *book) turn(scope, id int, name string) api.Errno {
	if err := refuses(scope, id, name); err != 0 {
		return err
	}
	if r, _ := rowOf(name); r.kind != "flag" {
		return 125
	}
	if b.there(scope, id, name) == "on" {
		return b.set(scope, id, name, "off")
	}
	return b.set(scope, id, name, "on")
}

func (b *book) unset(scope, id int, name string) api.Errno {
	if err := refuses(scope, id, name); err != 0 {
		return err
	}
	if at := b.at(scope, id, name); at >= 0 {
		b.all = slices.Delete(b.all, at, at+1)
	}
	return 0
}

func (b *book) get(name string, session, window, pane int) (string, api.Errno) {
	r, ok := rowOf(name)
	if !ok {
		return "", 230
	}
	order := [][2]int{{1, 0}}
	switch r.scope {
	case 2:
		order = [][2]int{{2, session}, {2, 0}}
	case 3:
		order = [][2]int{{3, window}, {3, 0}}
	case 4:
		order = [][2]int{{4, pane}, {3, window}, {4, 0}, {3, 0}}
	}
	for _, o := range order {
		if at := b.at(o[0], o[1], name); at >= 0 {
			return b.all[at].Value, 0
		}
	}
	return r.first, 0
}

// local puts each thing that is set there ahead of the first one whose name comes behind.
func (b *book) local(scope, id int) []api.Setting {
	var list []api.Setting
	for _, s := range b.all {
		if s.Scope != scope || s.Id != id {
			continue
		}
		at := 0
		for at < len(list) && list[at].Name < s.Name {
			at++
		}
		list = slices.Insert(list, at, s)
	}
	return list
}

func (b *book) drop(scope, id int) {
	if id == 0 {
		return
	}
	var left []api.Setting
	for _, s := range b.all {
		if s.Scope != scope || s.Id != id {
			left = append(left, s)
		}
	}
	b.all = left
}
