package options

import (
	"math/rand"
	"strconv"
	"strings"

	"mullion/api"
)

// dealer makes calls by chance.
type dealer struct{ *rand.Rand }

func dealt(seed int) dealer { return dealer{rand.New(rand.NewSource(int64(seed)))} }

func (d dealer) row() row { return sheet[d.Intn(len(sheet))] }

// name is mostly an option's.
func (d dealer) name() string {
	if d.Intn(20) == 0 {
		return []string{"", "nothing", "Status", "statu", "prefix ", "window"}[d.Intn(6)]
	}
	return d.row().name
}

// scope is mostly one that the option may be set for.
func (d dealer) scope(name string) int {
	r, is := rowOf(name)
	if !is || d.Intn(12) == 0 {
		return d.Intn(7) - 1
	}
	scopes := scopesOf(r)
	return scopes[d.Intn(len(scopes))]
}

// id is mostly one of a few, so that they meet again.
func (d dealer) id(scope int) int {
	if d.Intn(12) == 0 {
		return []int{-1, api.MaxNumber, api.MaxNumber + 1, -1 << 63, 1}[d.Intn(5)]
	}
	if scope == api.ScopeServer {
		return 0
	}
	return d.Intn(4)
}

// value is mostly one that the option takes.
func (d dealer) value(name string) string {
	r, is := rowOf(name)
	if !is || d.Intn(6) == 0 {
		return []string{"", "on", "off", "0", "07", "10000", "C-i", "bold", "top", "\xff", strings.Repeat("x", 1025), strings.Repeat("y", 1024)}[d.Intn(12)]
	}
	switch r.kind {
	case "number":
		return strconv.Itoa(d.Intn(24))
	case "flag":
		return []string{"on", "off"}[d.Intn(2)]
	case "choice":
		words := strings.Split(r.form, "|")
		return words[d.Intn(len(words))]
	case "key":
		return []string{"C-a", "M-x", "F5", "C-M-S-Up", "Space", "\u00e9"}[d.Intn(6)]
	}
	return strings.Repeat(string(rune('a'+d.Intn(26))), []int{0, 1, 2, 3, 300, 1000}[d.Intn(6)])
}

// deal is one call's arguments.
type deal struct {
	verb        string
	scope, id   int
	name, value string
}

func (d dealer) deal() deal {
	name := d.name()
	scope := d.scope(name)
	verb := []string{"Set", "Set", "Set", "Add", "Add", "Turn", "Turn", "Unset", "Drop"}[d.Intn(9)]
	switch {
	case verb == "Add" && d.Intn(3) > 0:
		name, scope = []string{"status-left", "window-format"}[d.Intn(2)], 2+d.Intn(2)
	case verb == "Turn" && d.Intn(3) > 0:
		name, scope = []string{"status", "scroll-keep", "wrap-search"}[d.Intn(3)], 2+d.Intn(3)
	case verb == "Drop" && d.Intn(2) > 0:
		scope = 5
	}
	return deal{verb, scope, d.id(scope), name, d.value(name)}
}
