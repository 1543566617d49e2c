package binds

import (
	"mullion/api"
	"mullion/keys"
	"mullion/octal"
)

// row is a binding of the beginning, without its table: the key's name and the line.
type row struct{ key, line string }

// bindAll asks for no errors: no row has a name or a line that is refused.
func (t *Tables) bindAll(table string, repeat bool, rows []row) {
	for _, r := range rows {
		k, _ := keys.Read(r.key)
		t.Bind(api.Binding{Table: table, Key: k, Repeat: repeat, Line: r.line})
	}
}

func prefixRows() []row {
	rows := []row{
		{"c", "new-window"},
		{"n", "select-window -n"},
		{"p", "select-window -p"},
		{"l", "select-window -l"},
		{"&", "kill-window"},
		{`"`, "split-window"},
		{"%", "split-window -h"},
		{"o", "select-pane -t +"},
		{";", "select-pane -l"},
		{"x", "kill-pane"},
		{"z", "resize-pane -Z"},
		{"!", "break-pane"},
		{"d", "detach-client"},
		{")", "switch-client -n"},
		{"(", "switch-client -p"},
		{"[", "copy-mode"},
		{"]", "paste-buffer"},
		{"=", "list-buffers"},
		{"?", "list-keys"},
		{":", "command-prompt"},
		{",", `command-prompt "rename-window "`},
		{"Space", "select-layout tiled"},
	}
	for n := range 10 {
		digit := octal.PutNumber(n)
		rows = append(rows, row{digit, "select-window -t :" + digit})
	}
	return rows
}

// repeatRows are those of the prefix table that repeat.
func repeatRows() []row {
	return []row{
		{"Up", "select-pane -U"},
		{"Down", "select-pane -D"},
		{"Left", "select-pane -L"},
		{"Right", "select-pane -R"},
		{"C-Up", "resize-pane -U"},
		{"C-Down", "resize-pane -D"},
		{"C-Left", "resize-pane -L"},
		{"C-Right", "resize-pane -R"},
	}
}

func copyRows() []row {
	return []row{
		{"Up", "copy cursor-up"},
		{"Down", "copy cursor-down"},
		{"Left", "copy cursor-left"},
		{"Right", "copy cursor-right"},
		{"PageUp", "copy page-up"},
		{"PageDown", "copy page-down"},
		{"C-a", "copy start-of-line"},
		{"C-e", "copy end-of-line"},
		{"M-f", "copy next-word"},
		{"M-b", "copy previous-word"},
		{"M-<", "copy history-top"},
		{"M->", "copy history-bottom"},
		{"C-Space", "copy begin-selection"},
		{"C-w", "copy copy-selection"},
		{"M-w", "copy copy-selection"},
		{"n", "copy search-again"},
		{"N", "copy search-reverse"},
		{"C-g", "copy clear-selection"},
		{"q", "copy cancel"},
		{"Escape", "copy cancel"},
	}
}
