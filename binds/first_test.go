package binds

import (
	"testing"

	"mullion/api"
)

func TestBI1EachBinding(t *testing.T) {
	tables := New()
	for _, b := range firstBook().all {
		if got, ok := tables.Find(b.Table, b.Key); got != b || !ok {
			t.Errorf("Find(%q, %v) is %v, %v, and not %v", b.Table, b.Key, got, ok, b)
		}
	}
}

func TestBI1SomeByTheirNames(t *testing.T) {
	tables := New()
	for _, c := range []struct {
		table, key, line string
		repeat           bool
	}{
		{"prefix", ",", `command-prompt "rename-window "`, false},
		{"prefix", ":", "command-prompt", false},
		{"prefix", `"`, "split-window", false},
		{"prefix", "%", "split-window -h", false},
		{"prefix", "0", "select-window -t :0", false},
		{"prefix", "9", "select-window -t :9", false},
		{"prefix", "Space", "select-layout tiled", false},
		{"prefix", "Left", "select-pane -L", true},
		{"prefix", "C-Right", "resize-pane -R", true},
		{"copy-mode", "C-Space", "copy begin-selection", false},
		{"copy-mode", "M->", "copy history-bottom", false},
		{"copy-mode", "Escape", "copy cancel", false},
		{"copy-mode", "PageDown", "copy page-down", false},
	} {
		b, ok := tables.Find(c.table, key(t, c.key))
		if !ok || b.Line != c.line || b.Repeat != c.repeat || b.Table != c.table || b.Key != key(t, c.key) {
			t.Errorf("%s %s is %v, %v", c.table, c.key, b, ok)
		}
	}
}

// Of all keys, in all tables that may be thought of, none is bound but those of the sheet.
func TestBI1NoOther(t *testing.T) {
	p := begun(t)
	if n, m := len(p.tables.List("prefix")), len(p.tables.List("copy-mode")); n != 40 || m != 20 {
		t.Errorf("%d and %d bindings, and not 40 and 20", n, m)
	}
	for _, table := range []string{"root", "prefix", "copy-mode", "copy", "", "prefix ", "Root"} {
		for mods := -1; mods <= 8; mods++ {
			for code := -1; code < 400; code++ {
				p.find(table, api.Key{Code: code, Mods: mods})
			}
			for code := 1<<24 - 1; code < 1<<24+30; code++ {
				p.find(table, api.Key{Code: code, Mods: mods})
			}
		}
	}
}

// There is room for as many more as the limit leaves.
func TestBI1RoomForOthers(t *testing.T) {
	p := begun(t)
	for i := range 140 {
		p.bind(api.Binding{Table: "more", Key: char(1000 + i), Line: "x"}, api.OK)
	}
	p.bind(api.Binding{Table: "more", Key: char(2000), Line: "x"}, api.ErrFull).look()
}

func TestBI1TwoAreTheirOwn(t *testing.T) {
	p := begun(t)
	p.bind(api.Binding{Table: "prefix", Key: char('c'), Line: "other"}, api.OK)
	p.bind(api.Binding{Table: "root", Key: char('c'), Line: "more"}, api.OK)
	p.unbind("prefix", char('n'), api.OK)
	for _, b := range firstBook().list("copy-mode") {
		p.unbind("copy-mode", b.Key, api.OK)
	}
	begun(t)
	p.look()
}
