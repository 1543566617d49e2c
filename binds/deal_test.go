package binds

import (
	"math/rand"
	"strings"

	"mullion/api"
)

// dealer makes bindings and keys by chance.
type dealer struct{ *rand.Rand }

func dealt(seed int) dealer { return dealer{rand.New(rand.NewSource(int64(seed)))} }

// table is mostly one that may be, of a few, so that they meet again.
func (d dealer) table() string {
	good := []string{"root", "root", "prefix", "prefix", "prefix", "copy-mode", "menu", "x", "root2", strings.Repeat("t", 32)}
	if d.Intn(12) == 0 {
		return senseless[d.Intn(len(senseless))]
	}
	return good[d.Intn(len(good))]
}

func (d dealer) key() api.Key {
	switch d.Intn(12) {
	case 0:
		return wrongKeys[d.Intn(len(wrongKeys))]
	case 1:
		return rightKeys[d.Intn(len(rightKeys))]
	case 2:
		return char(160 + d.Intn(60))
	case 3:
		return prefixKey
	case 4:
		return api.Key{Code: api.KeyUp + d.Intn(4), Mods: d.Intn(8)}
	}
	return api.Key{Code: 'a' + d.Intn(5), Mods: 2 * d.Intn(2)}
}

func (d dealer) line() string {
	switch d.Intn(12) {
	case 0:
		return ""
	case 1:
		return strings.Repeat("l", 8192)
	case 2:
		return strings.Repeat("l", 8193)
	}
	return "line " + string(rune('a'+d.Intn(26))) + string(rune('a'+d.Intn(26)))
}

func (d dealer) binding() api.Binding {
	return api.Binding{Table: d.table(), Key: d.key(), Repeat: d.Intn(2) == 0, Line: d.line()}
}
