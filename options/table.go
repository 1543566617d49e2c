package options

import (
	"slices"

	"mullion/api"
	"mullion/keys"
	"mullion/octal"
)

// The two values of a flag.
const (
	flagOn  = "on"
	flagOff = "off"
)

// kind says which values an option takes, and what else can be done with them.
type kind struct {
	check func(value string) api.Errno
	grows bool // it is a text: more can be added behind it
	turns bool // it is a flag: it can be turned
}

// option is one row of the table.
type option struct {
	scope int
	kind  kind
	first string // its value as long as it is set nowhere
}

// table is the chapter's section 23.1.
func table() map[string]option {
	return map[string]option{
		"base-index":            {api.ScopeSession, number(0, 9999), "0"},
		"buffer-limit":          {api.ScopeServer, number(1, 20), "20"},
		"display-lines":         {api.ScopeSession, number(1, 50), "5"},
		"escape-time":           {api.ScopeServer, number(0, 100), "1"},
		"history-limit":         {api.ScopeSession, number(0, 2000), "200"},
		"key-table":             {api.ScopeSession, text(), "root"},
		"mode-style":            {api.ScopeWindow, choice("plain", "reverse", "bold"), "reverse"},
		"monitor-bell":          {api.ScopeWindow, flag(), flagOn},
		"pane-border":           {api.ScopeWindow, choice("line", "double", "blank"), "line"},
		"prefix":                {api.ScopeSession, key(), "C-b"},
		"repeat-time":           {api.ScopeSession, number(0, 100), "2"},
		"scroll-keep":           {api.ScopePane, flag(), flagOn},
		"set-titles":            {api.ScopeSession, flag(), flagOff},
		"status":                {api.ScopeSession, flag(), flagOn},
		"status-left":           {api.ScopeSession, text(), "[#{session_name}]"},
		"status-position":       {api.ScopeSession, choice("bottom", "top"), "bottom"},
		"status-right":          {api.ScopeSession, text(), "#{window_width}x#{window_height}"},
		"synchronize":           {api.ScopeWindow, flag(), flagOff},
		"window-current-format": {api.ScopeWindow, text(), "#{window_index}:#{window_name}#{window_flags}"},
		"window-format":         {api.ScopeWindow, text(), "#{window_index}:#{window_name}#{window_flags}"},
		"word-separators":       {api.ScopeSession, text(), " -_@"},
		"wrap-search":           {api.ScopePane, flag(), flagOn},
	}
}

// fault is ErrValue, unless the value is one of its kind.
func fault(fits bool) api.Errno {
	if fits {
		return api.OK
	}
	return api.ErrValue
}

func number(least, greatest int) kind {
	return kind{check: func(value string) api.Errno {
		n, ok := octal.Number(value)
		return fault(ok && least <= n && n <= greatest)
	}}
}

func choice(words ...string) kind {
	return kind{check: func(value string) api.Errno {
		return fault(slices.Contains(words, value))
	}}
}

func flag() kind {
	k := choice(flagOn, flagOff)
	k.turns = true
	return k
}

func key() kind {
	return kind{check: func(value string) api.Errno {
		_, err := keys.Read(value)
		return fault(err == api.OK)
	}}
}

// text takes any bytes: no value is wrong, but one may be too long.
func text() kind {
	return kind{grows: true, check: func(value string) api.Errno {
		if len(value) > api.MaxText {
			return api.ErrLong
		}
		return api.OK
	}}
}

// isOf tells whether the option can be set for things of a scope: one of panes
// can be set for a window too, and is then set for all its panes.
func (opt option) isOf(scope int) bool {
	return scope == opt.scope || opt.scope == api.ScopePane && scope == api.ScopeWindow
}
