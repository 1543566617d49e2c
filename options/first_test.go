package options

import (
	"math"
	"slices"
	"strings"
	"testing"

	"mullion/api"
)

func TestOP1NothingIsSet(t *testing.T) {
	o := New()
	for scope := -3; scope <= 8; scope++ {
		for _, id := range append([]int{math.MaxInt, math.MinInt + 1}, someIds...) {
			if list := o.Local(scope, id); len(list) > 0 {
				t.Errorf("Local(%d, %d) is %s", scope, id, shortList(list))
			}
		}
	}
	begun(t).look()
}

func TestOP1ValuesAtTheBeginning(t *testing.T) {
	o := New()
	for _, r := range sheet {
		for _, id := range someIds {
			if got, err := o.Get(r.name, id, id, id); got != r.first || err != api.OK {
				t.Errorf("Get(%q) for %d is %q, %d, and not %q", r.name, id, got, err, r.first)
			}
		}
	}
	for _, c := range []struct{ name, want string }{
		{"base-index", "0"}, {"buffer-limit", "20"}, {"display-lines", "5"}, {"escape-time", "1"}, {"history-limit", "200"},
		{"repeat-time", "2"}, {"prefix", "C-b"}, {"key-table", "root"}, {"word-separators", " -_@"}, {"status-position", "bottom"},
	} {
		if got, _ := o.Get(c.name, 1, 1, 1); got != c.want {
			t.Errorf("Get(%q) is %q, and not %q", c.name, got, c.want)
		}
	}
}

// The values at the beginning are values of their kinds, so that they can be set.
func TestOP1ValuesAtTheBeginningCanBeSet(t *testing.T) {
	p := begun(t)
	for _, r := range sheet {
		if !r.takes(r.first) {
			t.Errorf("%s does not take %q", r.name, r.first)
		}
		p.set(r.scope, 0, r.name, r.first, api.OK)
	}
	p.look()
}

func TestOP1Names(t *testing.T) {
	var want []string
	for _, r := range sheet {
		want = append(want, r.name)
	}
	if len(want) != 22 || !slices.IsSorted(want) {
		t.Fatalf("the sheet is wrong: %q", want)
	}
	for range 20 {
		if got := Names(); !slices.Equal(got, want) {
			t.Errorf("Names() is %q, and not %q", got, want)
		}
	}
}

func TestOP1Scope(t *testing.T) {
	for _, r := range sheet {
		if got := Scope(r.name); got != r.scope {
			t.Errorf("Scope(%q) is %d, and not %d", r.name, got, r.scope)
		}
	}
	for name, want := range map[string]int{
		"buffer-limit": api.ScopeServer, "escape-time": api.ScopeServer, "prefix": api.ScopeSession, "word-separators": api.ScopeSession,
		"synchronize": api.ScopeWindow, "mode-style": api.ScopeWindow, "scroll-keep": api.ScopePane, "wrap-search": api.ScopePane,
	} {
		if got := Scope(name); got != want {
			t.Errorf("Scope(%q) is %d, and not %d", name, got, want)
		}
	}
}

// noNames are texts that are no option's name, among them all that are nearly one.
func noNames() []string {
	list := []string{"", " ", "-", "nothing", "root", "on", "number", "\x00", "\xff", "@user", "window", "session", "status\n", strings.Repeat("status", 20000)}
	for _, r := range sheet {
		list = append(list, strings.ToUpper(r.name), strings.ToUpper(r.name[:1])+r.name[1:], strings.ReplaceAll(r.name, "-", "_"))
		list = append(list, r.name+" ", " "+r.name, r.name+"s", r.name+"\x00", r.name+r.name, r.name+"-", r.name+":1", r.name[1:])
		for n := range len(r.name) {
			list = append(list, r.name[:n])
		}
	}
	return slices.DeleteFunc(list, func(name string) bool {
		_, is := rowOf(name)
		return is
	})
}

func TestOP1NoOther(t *testing.T) {
	list := noNames()
	if len(list) < 300 || slices.Contains(list, "status") || slices.Contains(list, "prefix") {
		t.Fatalf("%d texts", len(list))
	}
	p := begun(t)
	for _, name := range list {
		if got := Scope(name); got != 0 {
			t.Errorf("Scope(%.60q) is %d", name, got)
		}
		if got, err := p.options.Get(name, 0, 0, 0); got != "" || err != api.ErrOption {
			t.Errorf("Get(%.60q) is %q, %d", name, got, err)
		}
	}
	p.look()
}

// What is set in some options is not set in those that are made then.
func TestOP1TwoAreTheirOwn(t *testing.T) {
	p := begun(t)
	for _, r := range sheet {
		if r.kind == "flag" {
			p.turn(r.scope, 0, r.name, api.OK)
		}
		if r.kind == "text" {
			p.add(r.scope, 0, r.name, "!", api.OK)
		}
	}
	p.set(2, 1, "prefix", "M-x", api.OK)
	begun(t).look()
	p.look()
}
