package binds

import (
	"math"
	"strings"

	"mullion/api"
)

// sendPrefix is the line of the prefix key pressed twice, where no binding says otherwise.
const sendPrefix = "send-prefix"

// Walk is where somebody who presses keys stands.
type Walk struct {
	Table string // "": at rest; else the table in which the next key is looked for
	Until int    // above 0: the last tick at which a key that repeats needs no prefix
}

// Press tells what a key does: where one stands then, the line, whether the key is for the pane.
func (t *Tables) Press(w Walk, prefix, k api.Key, tick, repeat int) (Walk, string, bool) {
	// A table that stands open and may be gone on with is like one behind the
	// prefix key: its binding repeats, so both go on to the same place.
	if w.Table == prefixTable && w.Until > 0 && !t.goesOn(w.Until, k, tick) {
		w = Walk{}
	}
	if w.Table != "" {
		next, line := t.pressIn(w.Table, prefix, k, tick, repeat)
		return next, line, false
	}
	return t.pressAtRest(prefix, k)
}

// goesOn tells whether a key may follow without the prefix key on one that repeats.
func (t *Tables) goesOn(until int, k api.Key, tick int) bool {
	return tick <= until && t.rows[slot{table: prefixTable, key: k}].repeat
}

func (t *Tables) pressIn(table string, prefix, k api.Key, tick, repeat int) (Walk, string) {
	m, bound := t.rows[slot{table: table, key: k}]
	switch {
	case bound && m.repeat && table == prefixTable:
		return open(tick, repeat), strings.Clone(m.line)
	case bound:
		return Walk{}, strings.Clone(m.line)
	case table == prefixTable && k == prefix:
		return Walk{}, sendPrefix
	}
	return Walk{}, ""
}

// open is where one stands behind a key that repeats.
func open(tick, repeat int) Walk {
	if repeat < 1 {
		return Walk{}
	}
	if tick > math.MaxInt-repeat {
		return Walk{Table: prefixTable, Until: math.MaxInt}
	}
	return Walk{Table: prefixTable, Until: tick + repeat}
}

func (t *Tables) pressAtRest(prefix, k api.Key) (Walk, string, bool) {
	if k == prefix {
		return Walk{Table: prefixTable}, "", false
	}
	if m, bound := t.rows[slot{table: rootTable, key: k}]; bound {
		return Walk{}, strings.Clone(m.line), false
	}
	return Walk{}, "", true
}
