package options

import (
	"math"
	"slices"
	"testing"

	"mullion/api"
)

func wantLocal(t *testing.T, o *Options, scope, id int, want ...api.Setting) {
	t.Helper()
	if got := o.Local(scope, id); !slices.Equal(got, want) {
		t.Errorf("Local(%d, %d) is %s, and not %s", scope, id, shortList(got), shortList(want))
	}
}

func TestOP6Local(t *testing.T) {
	p := begun(t)
	p.set(2, 1, "status", "off", api.OK).set(2, 1, "base-index", "3", api.OK).set(2, 1, "status-left", "", api.OK).set(2, 2, "prefix", "C-a", api.OK).set(2, 0, "prefix", "C-x", api.OK)
	p.set(3, 1, "wrap-search", "off", api.OK).set(3, 1, "mode-style", "bold", api.OK).set(4, 1, "wrap-search", "on", api.OK).set(1, 0, "escape-time", "0", api.OK)
	wantLocal(t, p.options, 2, 1, api.Setting{Scope: 2, Id: 1, Name: "base-index", Value: "3"}, api.Setting{Scope: 2, Id: 1, Name: "status", Value: "off"}, api.Setting{Scope: 2, Id: 1, Name: "status-left", Value: ""})
	wantLocal(t, p.options, 2, 2, api.Setting{Scope: 2, Id: 2, Name: "prefix", Value: "C-a"})
	wantLocal(t, p.options, 2, 0, api.Setting{Scope: 2, Id: 0, Name: "prefix", Value: "C-x"})
	wantLocal(t, p.options, 3, 1, api.Setting{Scope: 3, Id: 1, Name: "mode-style", Value: "bold"}, api.Setting{Scope: 3, Id: 1, Name: "wrap-search", Value: "off"})
	wantLocal(t, p.options, 4, 1, api.Setting{Scope: 4, Id: 1, Name: "wrap-search", Value: "on"})
	wantLocal(t, p.options, 1, 0, api.Setting{Scope: 1, Id: 0, Name: "escape-time", Value: "0"})
	wantLocal(t, p.options, 3, 2)
	wantLocal(t, p.options, 4, 0)
	wantLocal(t, p.options, 1, 1)
	p.look()
}

// What is set to the value at the beginning is set.
func TestOP6LocalOfTheBeginning(t *testing.T) {
	p := begun(t)
	for _, r := range sheet {
		p.set(r.scope, 0, r.name, r.first, api.OK)
	}
	p.look()
	if n := len(p.options.Local(2, 0)); n != 12 {
		t.Errorf("%d options of sessions, and not 12", n)
	}
}

// In whatever order they are set, the names rise.
func TestOP6LocalRises(t *testing.T) {
	for seed := range 60 {
		p, d := begun(t), dealt(seed)
		for _, i := range d.Perm(len(sheet)) {
			r := sheet[i]
			id := 1
			if r.scope == api.ScopeServer {
				id = 0
			}
			p.set(r.scope, id, r.name, good(r), api.OK)
			if r.scope == 4 {
				p.set(3, 1, r.name, good(r), api.OK)
			}
		}
		for at, n := range map[spot]int{{1, 0}: 2, {2, 1}: 12, {3, 1}: 8, {4, 1}: 2} {
			list := p.options.Local(at.scope, at.id)
			if len(list) != n || !slices.IsSortedFunc(list, func(a, b api.Setting) int { return slices.Compare([]byte(a.Name), []byte(b.Name)) }) {
				t.Errorf("Local(%d, %d) is %s", at.scope, at.id, shortList(list))
			}
		}
		p.look()
	}
}

// scattered is things that are set for some ids of each scope.
func scattered(t testing.TB) *pair {
	t.Helper()
	p := begun(t)
	for _, r := range sheet {
		for _, scope := range scopesOf(r) {
			for _, id := range []int{0, 1, 2, api.MaxNumber} {
				if scope != api.ScopeServer || id == 0 {
					p.set(scope, id, r.name, good(r), api.OK)
				}
			}
		}
	}
	return p
}

func TestOP6Drop(t *testing.T) {
	for scope := 2; scope <= 4; scope++ {
		for _, id := range []int{1, 2, api.MaxNumber} {
			p := scattered(t)
			count := len(p.book.all)
			was := len(p.options.Local(scope, id))
			if was == 0 {
				t.Fatal("nothing is set")
			}
			p.drop(scope, id).look()
			wantLocal(t, p.options, scope, id)
			if n := len(p.book.all); n != count-was {
				t.Errorf("%d things are left of %d", n, count)
			}
			p.drop(scope, id).look()
		}
	}
}

// Drop of the id 0, and of what makes no sense: nothing happens.
func TestOP6DropNothing(t *testing.T) {
	p := scattered(t)
	count := len(p.book.all)
	for scope := -2; scope <= 7; scope++ {
		p.drop(scope, 0)
		for _, id := range []int{-1, -2, 3, 4, api.MaxNumber - 1, api.MaxNumber + 1, math.MinInt, math.MaxInt, 1<<32 + 1} {
			p.drop(scope, id)
		}
	}
	for _, scope := range []int{math.MinInt, -4, -3, -1, 0, 1, 5, 6, 1<<32 + 2, math.MaxInt} {
		for _, id := range []int{0, 1, 2, api.MaxNumber} {
			p.drop(scope, id)
		}
	}
	p.look()
	if n := len(p.book.all); n != count {
		t.Errorf("%d things are left of %d", n, count)
	}
}

// Behind Drop what is set for all counts again, and things can be set anew.
func TestOP6DropAndAgain(t *testing.T) {
	p := begun(t)
	p.set(2, 0, "prefix", "C-a", api.OK).set(2, 1, "prefix", "M-x", api.OK).set(2, 1, "status-left", "x", api.OK).turn(2, 1, "status", api.OK)
	p.drop(2, 1).is("prefix", 1, 0, 0, "C-a").is("status-left", 1, 0, 0, "[#{session_name}]").is("status", 1, 0, 0, "on").look()
	p.add(2, 1, "status-left", "!", api.OK).is("status-left", 1, 0, 0, "[#{session_name}]!")
	p.turn(2, 1, "status", api.OK).is("status", 1, 0, 0, "off").look()
	p.set(3, 4, "scroll-keep", "off", api.OK).set(4, 4, "scroll-keep", "off", api.OK)
	p.drop(3, 4).is("scroll-keep", 1, 4, 4, "off").is("scroll-keep", 1, 4, 5, "on").drop(4, 4).is("scroll-keep", 1, 4, 4, "on").look()
}

// Drop makes room.
func TestOP6DropOfAll(t *testing.T) {
	p := full(t)
	for id := fillers; id < fillers+500; id++ {
		p.drop(2, id).drop(3, id).drop(4, id)
	}
	p.look()
	if n := len(p.options.set); n != 0 || len(p.book.all) != 0 {
		t.Errorf("%d things are kept", n)
	}
	for id := range 500 {
		p.set(2, id, "status", "off", api.OK)
	}
	p.set(3, 1, "synchronize", "on", api.ErrFull).look()
}
