package binds

import (
	"math"
	"math/big"
	"regexp"
	"slices"

	"mullion/api"
	"mullion/keys"
)

// firstSheet is chapter 22.1, with keys as numbers.
var firstSheet = []struct {
	table      string
	code, mods int
	repeat     bool
	line       string
}{
	{"prefix", 'c', 0, false, "new-window"},
	{"prefix", 'n', 0, false, "select-window -n"},
	{"prefix", 'p', 0, false, "select-window -p"},
	{"prefix", 'l', 0, false, "select-window -l"},
	{"prefix", '0', 0, false, "select-window -t :0"},
	{"prefix", '1', 0, false, "select-window -t :1"},
	{"prefix", '2', 0, false, "select-window -t :2"},
	{"prefix", '3', 0, false, "select-window -t :3"},
	{"prefix", '4', 0, false, "select-window -t :4"},
	{"prefix", '5', 0, false, "select-window -t :5"},
	{"prefix", '6', 0, false, "select-window -t :6"},
	{"prefix", '7', 0, false, "select-window -t :7"},
	{"prefix", '8', 0, false, "select-window -t :8"},
	{"prefix", '9', 0, false, "select-window -t :9"},
	{"prefix", '&', 0, false, "kill-window"},
	{"prefix", '"', 0, false, "split-window"},
	{"prefix", '%', 0, false, "split-window -h"},
	{"prefix", 'o', 0, false, "select-pane -t +"},
	{"prefix", ';', 0, false, "select-pane -l"},
	{"prefix", 'x', 0, false, "kill-pane"},
	{"prefix", 'z', 0, false, "resize-pane -Z"},
	{"prefix", '!', 0, false, "break-pane"},
	{"prefix", 'd', 0, false, "detach-client"},
	{"prefix", ')', 0, false, "switch-client -n"},
	{"prefix", '(', 0, false, "switch-client -p"},
	{"prefix", '[', 0, false, "copy-mode"},
	{"prefix", ']', 0, false, "paste-buffer"},
	{"prefix", '=', 0, false, "list-buffers"},
	{"prefix", '?', 0, false, "list-keys"},
	{"prefix", ':', 0, false, "command-prompt"},
	{"prefix", ',', 0, false, "command-prompt \"rename-window \""},
	{"prefix", 32, 0, false, "select-layout tiled"},
	{"prefix", api.KeyUp, 0, true, "select-pane -U"},
	{"prefix", api.KeyDown, 0, true, "select-pane -D"},
	{"prefix", api.KeyLeft, 0, true, "select-pane -L"},
	{"prefix", api.KeyRight, 0, true, "select-pane -R"},
	{"prefix", api.KeyUp, api.ModCtrl, true, "resize-pane -U"},
	{"prefix", api.KeyDown, api.ModCtrl, true, "resize-pane -D"},
	{"prefix", api.KeyLeft, api.ModCtrl, true, "resize-pane -L"},
	{"prefix", api.KeyRight, api.ModCtrl, true, "resize-pane -R"},
	{"copy-mode", api.KeyUp, 0, false, "copy cursor-up"},
	{"copy-mode", api.KeyDown, 0, false, "copy cursor-down"},
	{"copy-mode", api.KeyLeft, 0, false, "copy cursor-left"},
	{"copy-mode", api.KeyRight, 0, false, "copy cursor-right"},
	{"copy-mode", api.KeyPageUp, 0, false, "copy page-up"},
	{"copy-mode", api.KeyPageDown, 0, false, "copy page-down"},
	{"copy-mode", 'a', api.ModCtrl, false, "copy start-of-line"},
	{"copy-mode", 'e', api.ModCtrl, false, "copy end-of-line"},
	{"copy-mode", 'f', api.ModMeta, false, "copy next-word"},
	{"copy-mode", 'b', api.ModMeta, false, "copy previous-word"},
	{"copy-mode", '<', api.ModMeta, false, "copy history-top"},
	{"copy-mode", '>', api.ModMeta, false, "copy history-bottom"},
	{"copy-mode", 32, api.ModCtrl, false, "copy begin-selection"},
	{"copy-mode", 'w', api.ModCtrl, false, "copy copy-selection"},
	{"copy-mode", 'w', api.ModMeta, false, "copy copy-selection"},
	{"copy-mode", 'n', 0, false, "copy search-again"},
	{"copy-mode", 'N', 0, false, "copy search-reverse"},
	{"copy-mode", 'g', api.ModCtrl, false, "copy clear-selection"},
	{"copy-mode", 'q', 0, false, "copy cancel"},
	{"copy-mode", 27, 0, false, "copy cancel"},
}

// book is all bindings as one list, in the order in which they joined.
type book struct{ all []api.Binding }

func firstBook() *book {
	b := &book{}
	for _, s := range firstSheet {
		b.all = append(b.all, api.Binding{Table: s.table, Key: api.Key{Code: s.code, Mods: s.mods}, Repeat: s.repeat, Line: s.line})
	}
	return b
}

// at is where a binding stands in the list; -1: there is none.
func (b *book) at(table string, k api.Key) int {
	for i, x := range b.all {
		if x.Table == table && x.Key == k {
			return i
		}
	}
	return -1
}

// tableForm is the names of DOC.md that have no blank.
var tableForm = regexp.MustCompile("\\A[\"#&-*,/-9;<>?A-Z\\[-\\]_-z|-~][!-\\-/-9;-~]{0,31}\\z")

func (b *book) bind(x api.Binding) api.Errno {
	at := b.at(x.Table, x.Key)
	if !tableForm.MatchString(x.Table) {
		return 73
	}
	if !keys.Valid(x.Key) {
		return 210
	}
	if len(x.Line) > 8192 {
		return 2
	}
	if at < 0 && len(b.all) == 200 {
		return 3
	}
	if at < 0 {
		b.all = append(b.all, x)
	} else {
		b.all[at] = x
	}
	return 0
}

func (b *book) unbind(table string, k api.Key) api.Errno {
	at := b.at(table, k)
	if at < 0 {
		return 220
	}
	b.all = slices.Delete(b.all, at, at+1)
	return 0
}

func (b *book) find(table string, k api.Key) (api.Binding, bool) {
	if at := b.at(table, k); at >= 0 {
		return b.all[at], true
	}
	return api.Binding{}, false
}

// list puts each binding of a table ahead of the first one that comes behind it.
func (b *book) list(table string) []api.Binding {
	var list []api.Binding
	for _, x := range b.all {
		if x.Table != table {
			continue
		}
		at := 0
		for at < len(list) && (list[at].Key.Code < x.Key.Code || list[at].Key.Code == x.Key.Code && list[at].Key.Mods < x.Key.Mods) {
			at++
		}
		list = slices.Insert(list, at, x)
	}
	return list
}

// names takes the least name above the last one, again and again.
func (b *book) names() []string {
	var names []string
	last := ""
	for {
		next := ""
		for _, x := range b.all {
			if x.Table > last && (next == "" || x.Table < next) {
				next = x.Table
			}
		}
		if next == "" {
			return names
		}
		names = append(names, next)
		last = next
	}
}

// sum is two numbers together, at most the greatest int.
func sum(a, b int) int {
	s := new(big.Int).Add(big.NewInt(int64(a)), big.NewInt(int64(b)))
	if s.Cmp(big.NewInt(math.MaxInt)) > 0 {
		return math.MaxInt
	}
	return int(s.Int64())
}

// pressed is what Press answers.
type pressed struct {
	walk Walk
	line string
	pane bool
}

// press is BI4, word by word.
func (b *book) press(w Walk, prefix, k api.Key, tick, repeat int) pressed {
	if w.Table == "prefix" && w.Until > 0 {
		x, ok := b.find("prefix", k)
		switch {
		case tick > w.Until, !ok, !x.Repeat:
			w = Walk{}
		case repeat < 1:
			return pressed{Walk{}, x.Line, false}
		default:
			return pressed{Walk{"prefix", sum(tick, repeat)}, x.Line, false}
		}
	}
	if w.Table != "" {
		x, ok := b.find(w.Table, k)
		switch {
		case ok && w.Table == "prefix" && x.Repeat && repeat >= 1:
			return pressed{Walk{"prefix", sum(tick, repeat)}, x.Line, false}
		case ok:
			return pressed{Walk{}, x.Line, false}
		case w.Table == "prefix" && k == prefix:
			return pressed{Walk{}, "send-prefix", false}
		}
		return pressed{}
	}
	if k == prefix {
		return pressed{Walk{"prefix", 0}, "", false}
	}
	if x, ok := b.find("root", k); ok {
		return pressed{Walk{}, x.Line, false}
	}
	return pressed{Walk{}, "", true}
}
