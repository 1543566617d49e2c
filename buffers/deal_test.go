package buffers

import (
	"math/rand"
	"strconv"
	"strings"
)

// dealer makes calls by chance.
type dealer struct{ *rand.Rand }

func dealt(seed int) dealer { return dealer{rand.New(rand.NewSource(int64(seed)))} }

// name is one of a few, so that they meet again; some are those of automatic ones, now or later.
func (d dealer) name(near int) string {
	switch d.Intn(12) {
	case 0:
		return []string{"a b", " ", "-x", "a:b", "\x00", "\u00e9", strings.Repeat("x", 33), "."}[d.Intn(8)]
	case 1, 2, 3, 4:
		return "buffer" + strconv.Itoa(max(0, near-20+d.Intn(24)))
	}
	return "n" + strconv.Itoa(d.Intn(24))
}

// some is mostly a name of something that is there.
func (d dealer) some(there []string, near int) string {
	switch {
	case d.Intn(6) == 0:
		return ""
	case len(there) > 0 && d.Intn(4) > 0:
		return there[d.Intn(len(there))]
	}
	return d.name(near)
}

func (d dealer) text() string {
	switch d.Intn(40) {
	case 0:
		return strings.Repeat("x", 65537+d.Intn(3))
	case 1:
		return strings.Repeat(string(rune('a'+d.Intn(26))), 65536)
	}
	return strings.Repeat(string(rune('a'+d.Intn(26))), d.Intn(6)) + strconv.Itoa(d.Intn(1000))
}

// deal is one call; there are the names of the buffers, near is about what the counter is.
func (d dealer) deal(there []string, near int) call {
	switch d.Intn(20) {
	case 0:
		return call{"Limit", "", strconv.Itoa(d.Intn(24) - 1)}
	case 1, 2:
		return call{"Delete", d.some(there, near), ""}
	case 3, 4, 5, 6:
		to := d.name(near)
		if d.Intn(6) == 0 {
			to = d.some(there, near)
		}
		return call{"Rename", d.some(there, near), to}
	case 7, 8, 9, 10, 11, 12:
		return call{"Set", "", d.text()}
	}
	return call{"Set", d.some(there, near), d.text()}
}
