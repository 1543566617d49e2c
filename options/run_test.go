package options

import (
	"maps"
	"slices"
	"strconv"
	"testing"

	"mullion/api"
)

// chance makes one call by chance on both, and tells which it was and what it answered.
func (p *pair) chance(d dealer) string {
	p.t.Helper()
	c := d.deal()
	if c.verb == "Drop" {
		p.drop(c.scope, c.id)
		return c.verb
	}
	return c.verb + " " + strconv.Itoa(int(p.call(c.verb, c.scope, c.id, c.name, c.value)))
}

// Long runs from nothing and from nearly as much as may be set: behind each call all is asked.
func TestOP7LongRuns(t *testing.T) {
	reached := map[string]int{}
	for seed := range 6 {
		p, d := filled(t, []int{0, 480}[seed%2]), dealt(seed)
		for range 300 {
			reached[p.chance(d)]++
			if p.look(); t.Failed() {
				return
			}
		}
	}
	for _, verb := range []string{"Set", "Add", "Turn", "Unset"} {
		wanted := []string{" 0", " 230", " 231", " 1"}
		switch verb {
		case "Set":
			wanted = append(wanted, " 2", " 125", " 3")
		case "Add":
			wanted = append(wanted, " 125", " 2", " 3")
		case "Turn":
			wanted = append(wanted, " 125", " 3")
		}
		for _, w := range wanted {
			if reached[verb+w] == 0 {
				t.Errorf("the runs have no %q: %v", verb+w, slices.Sorted(maps.Keys(reached)))
			}
		}
	}
}

// What Get answers is a value of the option's kind, whatever was called ahead; asked without the model.
func TestOP7AlwaysOfItsKind(t *testing.T) {
	others := map[string]int{}
	for seed := range 40 {
		o, d := New(), dealt(1000+seed)
		for range 400 {
			c := d.deal()
			c.on(o)
			r := d.row()
			got, err := o.Get(r.name, d.id(2), d.id(3), d.id(4))
			if err != api.OK || !r.takes(got) {
				t.Fatalf("Get(%q) is %.60q, %d", r.name, got, err)
			}
			if got != r.first {
				others[r.name]++
			}
			for scope := 1; scope <= 4; scope++ {
				for _, s := range o.Local(scope, d.id(scope)) {
					if r, is := rowOf(s.Name); !is || !r.takes(s.Value) || !slices.Contains(scopesOf(r), s.Scope) {
						t.Fatalf("set is %.100v", s)
					}
				}
			}
		}
	}
	for _, r := range sheet {
		if others[r.name] < 10 {
			t.Errorf("%s had another value than the first %d times alone", r.name, others[r.name])
		}
	}
}

// on makes the call.
func (c deal) on(o *Options) api.Errno {
	switch c.verb {
	case "Set":
		return o.Set(c.scope, c.id, c.name, c.value)
	case "Add":
		return o.Add(c.scope, c.id, c.name, c.value)
	case "Turn":
		return o.Turn(c.scope, c.id, c.name)
	case "Unset":
		return o.Unset(c.scope, c.id, c.name)
	}
	o.Drop(c.scope, c.id)
	return api.OK
}

// isSet tells whether Local tells of it.
func isSet(o *Options, scope, id int, name string) bool {
	return slices.ContainsFunc(o.Local(scope, id), func(s api.Setting) bool { return s.Name == name })
}

// nearer tells whether something is set for a pane and a window ahead of what is set at a place.
func nearer(o *Options, scope, id, window, pane int, name string) bool {
	for _, at := range []spot{{4, pane}, {3, window}, {4, 0}, {3, 0}} {
		if at == (spot{scope, id}) {
			return false
		}
		if isSet(o, at.scope, at.id, name) {
			return true
		}
	}
	return false
}

// Behind Set with OK, Get for just that id answers the value, unless a nearer one is set.
func TestOP7BehindSet(t *testing.T) {
	var asked, hidden int
	for seed := range 60 {
		o, d := New(), dealt(2000+seed)
		for range 300 {
			c := d.deal()
			if err := c.on(o); err != api.OK || c.verb != "Set" {
				continue
			}
			session, window, pane := d.Intn(4), d.Intn(4), d.Intn(4)
			switch c.scope {
			case 2:
				session = c.id
			case 3:
				window = c.id
			case 4:
				pane = c.id
			}
			if Scope(c.name) == api.ScopePane && nearer(o, c.scope, c.id, window, pane, c.name) {
				hidden++
				continue
			}
			asked++
			if got, err := o.Get(c.name, session, window, pane); got != c.value || err != api.OK {
				t.Fatalf("behind Set(%d, %d, %q, %.60q) it is %.60q, %d", c.scope, c.id, c.name, c.value, got, err)
			}
			if !slices.Contains(o.Local(c.scope, c.id), api.Setting{Scope: c.scope, Id: c.id, Name: c.name, Value: c.value}) {
				t.Fatalf("behind Set(%d, %d, %q, %.60q) Local does not tell of it", c.scope, c.id, c.name, c.value)
			}
		}
	}
	if asked < 1000 || hidden < 20 {
		t.Errorf("asked was %d times, and %d times a nearer one was set", asked, hidden)
	}
}

// everything is all that Local tells for the ids of the dealer.
func everything(o *Options) []api.Setting {
	var list []api.Setting
	for scope := 1; scope <= 4; scope++ {
		for _, id := range []int{0, 1, 2, 3, api.MaxNumber} {
			list = append(list, o.Local(scope, id)...)
		}
	}
	return list
}

// A call changes what it names and nothing else; one that is refused changes nothing; asking changes nothing.
func TestOP7OneAlone(t *testing.T) {
	for seed := range 30 {
		o, d := New(), dealt(3000+seed)
		for range 200 {
			was := everything(o)
			c := d.deal()
			err := c.on(o)
			Names()
			Scope(c.name)
			o.Get(c.name, c.id, c.id, c.id)
			now := everything(o)
			if err != api.OK {
				if !slices.Equal(was, now) {
					t.Fatalf("%v answers %d and has changed something", c, err)
				}
				continue
			}
			other := func(s api.Setting) bool {
				return s.Scope == c.scope && s.Id == c.id && (s.Name == c.name || c.verb == "Drop")
			}
			if !slices.Equal(slices.DeleteFunc(was, other), slices.DeleteFunc(now, other)) {
				t.Fatalf("%v has changed something else", c)
			}
		}
	}
}
