package binds

import "testing"

// The chapter's examples, one behind the other: the prefix key is C-b, repeat is 2.
func TestExamples(t *testing.T) {
	tables, w := New(), Walk{}
	prefix := key(t, "C-b")
	for i, c := range []struct {
		key  string
		tick int
		want pressed
	}{
		{"a", 1, pressed{Walk{}, "", true}},
		{"C-b", 1, pressed{Walk{"prefix", 0}, "", false}},
		{"c", 1, pressed{Walk{}, "new-window", false}},
		{"C-b", 1, pressed{Walk{"prefix", 0}, "", false}},
		{"C-b", 1, pressed{Walk{}, "send-prefix", false}},
		{"C-b", 4, pressed{Walk{"prefix", 0}, "", false}},
		{"Up", 5, pressed{Walk{"prefix", 7}, "select-pane -U", false}},
		{"Up", 7, pressed{Walk{"prefix", 9}, "select-pane -U", false}},
		{"a", 8, pressed{Walk{}, "", true}},
		{"C-b", 5, pressed{Walk{"prefix", 0}, "", false}},
		{"Up", 5, pressed{Walk{"prefix", 7}, "select-pane -U", false}},
		{"Up", 7, pressed{Walk{"prefix", 9}, "select-pane -U", false}},
		{"Up", 10, pressed{Walk{}, "", true}},
	} {
		got := pressedOn(tables, w, prefix, key(t, c.key), c.tick, 2)
		if got != c.want {
			t.Errorf("key %d, %s: %v, and not %v", i, c.key, got, c.want)
		}
		w = got.walk
	}
}
