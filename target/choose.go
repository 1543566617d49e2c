package target

import (
	"strings"

	"mullion/api"
	"mullion/format"
	"mullion/octal"
)

// A candidate is what a part may mean by its index or its name.
type candidate struct {
	index int
	name  string
}

// How a part is held against the candidates, from the exact ways to the lax
// ones; behind these comes the pattern.
const (
	byIndex = iota
	byName
	byBeginning
)

// choose gives the place of the one candidate that a part means. The ways are
// tried from the first one on that counts: one by which nothing is meant leaves
// it to the next, one by which several are meant does not.
func choose(all []candidate, part string, first int) (int, api.Errno) {
	if name, ok := strings.CutPrefix(part, "="); ok {
		return only(all, func(c candidate) bool { return c.name == name })
	}
	switch first {
	case byIndex:
		if at, err := only(all, func(c candidate) bool { return octal.PutNumber(c.index) == part }); err != api.ErrTarget {
			return at, err
		}
		fallthrough
	case byName:
		if at, err := only(all, func(c candidate) bool { return c.name == part }); err != api.ErrTarget {
			return at, err
		}
		fallthrough
	case byBeginning:
		if at, err := only(all, func(c candidate) bool { return strings.HasPrefix(c.name, part) }); err != api.ErrTarget {
			return at, err
		}
		fallthrough
	default:
		return only(all, func(c candidate) bool { return format.Match(part, c.name) })
	}
}

// only gives the place of the one candidate that fits; several are too many.
func only(all []candidate, fits func(candidate) bool) (int, api.Errno) {
	found := -1
	for at, c := range all {
		if !fits(c) {
			continue
		}
		if found >= 0 {
			return 0, api.ErrMany
		}
		found = at
	}
	if found < 0 {
		return 0, api.ErrTarget
	}
	return found, api.OK
}
