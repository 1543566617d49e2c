package options

import (
	"math"
	"strings"
	"testing"

	"mullion/api"
)

func TestOP3AddBehindWhatIsSet(t *testing.T) {
	for _, r := range sheet {
		if r.kind != "text" {
			continue
		}
		p := begun(t)
		p.set(r.scope, 1, r.name, "a", api.OK)
		p.add(r.scope, 1, r.name, "b", api.OK).is(r.name, 1, 1, 0, "ab")
		p.add(r.scope, 1, r.name, "", api.OK).is(r.name, 1, 1, 0, "ab")
		p.add(r.scope, 1, r.name, "\x00\xff\n", api.OK).is(r.name, 1, 1, 0, "ab\x00\xff\n")
		p.set(r.scope, 1, r.name, "", api.OK)
		p.add(r.scope, 1, r.name, "c", api.OK).is(r.name, 1, 1, 0, "c").look()
	}
}

func TestOP3AddBehindTheBeginning(t *testing.T) {
	for _, r := range sheet {
		if r.kind != "text" {
			continue
		}
		p := begun(t)
		p.add(r.scope, 1, r.name, "!", api.OK).is(r.name, 1, 1, 0, r.first+"!").is(r.name, 2, 2, 0, r.first)
		p.add(r.scope, 2, r.name, "", api.OK).is(r.name, 2, 2, 0, r.first)
		if n := len(p.options.Local(r.scope, 2)); n != 1 {
			t.Errorf("%s: %d things are set by Add of nothing", r.name, n)
		}
		p.look()
	}
}

// What counts is what is set there: neither what is set for all nor what is set for others.
func TestOP3AddLooksThereAlone(t *testing.T) {
	p := begun(t)
	p.set(2, 0, "status-left", "all", api.OK).set(2, 2, "status-left", "other", api.OK).set(2, 1, "status-right", "right", api.OK).set(3, 1, "window-format", "window", api.OK)
	p.add(2, 1, "status-left", "!", api.OK).is("status-left", 1, 0, 0, "[#{session_name}]!")
	p.add(2, 0, "status-left", "!", api.OK).is("status-left", 3, 0, 0, "all!").is("status-left", 2, 0, 0, "other").look()
}

func TestOP3AddLengths(t *testing.T) {
	for _, r := range sheet {
		if r.kind != "text" {
			continue
		}
		p := begun(t)
		room := 1024 - len(r.first)
		p.add(r.scope, 1, r.name, strings.Repeat("x", room+1), api.ErrLong).look()
		p.add(r.scope, 1, r.name, strings.Repeat("x", room), api.OK).is(r.name, 1, 1, 0, r.first+strings.Repeat("x", room))
		p.add(r.scope, 1, r.name, "y", api.ErrLong).add(r.scope, 1, r.name, "", api.OK).look()
		for _, n := range []int{0, 1, 512, 1023, 1024} {
			p.set(r.scope, 2, r.name, strings.Repeat("a", n), api.OK)
			p.add(r.scope, 2, r.name, strings.Repeat("b", 1024-n+1), api.ErrLong).is(r.name, 2, 2, 0, strings.Repeat("a", n))
			p.add(r.scope, 2, r.name, strings.Repeat("b", 1<<20), api.ErrLong).is(r.name, 2, 2, 0, strings.Repeat("a", n))
			p.add(r.scope, 2, r.name, strings.Repeat("b", 1024-n), api.OK).is(r.name, 2, 2, 0, strings.Repeat("a", n)+strings.Repeat("b", 1024-n))
		}
		p.look()
	}
}

// Of what is no text: ErrValue, though the whole would be a value, and though it would be too long.
func TestOP3AddToNoText(t *testing.T) {
	p := begun(t)
	for _, r := range sheet {
		if r.kind == "text" {
			continue
		}
		for _, scope := range scopesOf(r) {
			for _, value := range []string{"", "0", "5", r.first, strings.Repeat("x", 1025), strings.Repeat("x", 1<<20)} {
				p.add(scope, 0, r.name, value, api.ErrValue)
			}
			p.set(scope, 0, r.name, good(r), api.OK).add(scope, 0, r.name, "", api.ErrValue).add(scope, 0, r.name, "0", api.ErrValue)
		}
	}
	p.look()
}

func TestOP3AddRefuses(t *testing.T) {
	long := strings.Repeat("x", 1025)
	for _, p := range []*pair{begun(t), full(t)} {
		for _, name := range noNames() {
			p.add(2, 0, name, "x", api.ErrOption).add(9, -1, name, long, api.ErrOption)
		}
		for _, scope := range []int{math.MinInt, -1, 0, 1, 3, 4, 5, math.MaxInt} {
			p.add(scope, 1, "status-left", "x", api.ErrScope).add(scope, -1, "status-left", long, api.ErrScope).add(scope, -1, "status", long, api.ErrScope)
		}
		p.add(4, 1, "window-format", "x", api.ErrScope).add(2, 1, "window-format", "x", api.ErrScope)
		for _, id := range []int{math.MinInt, -1, api.MaxNumber + 1, math.MaxInt} {
			p.add(2, id, "status-left", "x", api.ErrArg).add(2, id, "status-left", long, api.ErrArg).add(2, id, "status", "x", api.ErrArg)
		}
		p.add(1, 1, "escape-time", "x", api.ErrArg).add(1, 0, "escape-time", "x", api.ErrValue)
		p.look()
	}
}

func TestOP3AddFull(t *testing.T) {
	p := filled(t, 499)
	p.add(2, 1, "status-left", "!", api.OK).add(2, 2, "status-left", "!", api.ErrFull).add(2, 0, "status-left", "", api.ErrFull)
	p.add(2, 2, "status-left", strings.Repeat("x", 1025), api.ErrLong).add(2, 2, "status", "x", api.ErrValue)
	p.add(2, 1, "status-left", "!", api.OK).is("status-left", 1, 0, 0, "[#{session_name}]!!").look()
}

func TestOP3TurnFromEach(t *testing.T) {
	for _, r := range sheet {
		if r.kind != "flag" {
			continue
		}
		for _, scope := range scopesOf(r) {
			for _, id := range []int{0, 1, api.MaxNumber} {
				p := begun(t)
				other := good(r)
				p.turn(scope, id, r.name, api.OK).is(r.name, id, id, id*(scope/4), other).look()
				p.turn(scope, id, r.name, api.OK).is(r.name, id, id, id*(scope/4), r.first).look()
				p.turn(scope, id, r.name, api.OK).is(r.name, id, id, id*(scope/4), other)
				p.set(scope, id, r.name, "on", api.OK).turn(scope, id, r.name, api.OK).is(r.name, id, id, id*(scope/4), "off")
				p.set(scope, id, r.name, "off", api.OK).turn(scope, id, r.name, api.OK).is(r.name, id, id, id*(scope/4), "on").look()
			}
		}
	}
}

// Neither what is set for all nor what is set for others is turned, or looked at.
func TestOP3TurnLooksThereAlone(t *testing.T) {
	p := begun(t)
	p.set(2, 0, "status", "off", api.OK).set(2, 2, "status", "off", api.OK)
	p.turn(2, 1, "status", api.OK).is("status", 1, 0, 0, "off").is("status", 0, 0, 0, "off").look()
	p.turn(2, 0, "status", api.OK).is("status", 0, 0, 0, "on").is("status", 1, 0, 0, "off").is("status", 2, 0, 0, "off")
	p.set(3, 5, "scroll-keep", "off", api.OK)
	p.turn(4, 7, "scroll-keep", api.OK).is("scroll-keep", 1, 5, 7, "off").is("scroll-keep", 1, 5, 8, "off")
	p.turn(4, 7, "scroll-keep", api.OK).is("scroll-keep", 1, 5, 7, "on").is("scroll-keep", 1, 5, 8, "off")
	p.turn(3, 5, "scroll-keep", api.OK).is("scroll-keep", 1, 5, 8, "on").is("scroll-keep", 1, 5, 7, "on").look()
}

func TestOP3TurnNoFlag(t *testing.T) {
	p := begun(t)
	for _, r := range sheet {
		if r.kind != "flag" {
			p.turn(r.scope, 0, r.name, api.ErrValue)
		}
	}
	p.set(2, 0, "status-left", "on", api.OK).turn(2, 0, "status-left", api.ErrValue)
	p.set(2, 0, "key-table", "off", api.OK).turn(2, 0, "key-table", api.ErrValue)
	p.look()
}

func TestOP3TurnRefuses(t *testing.T) {
	for _, p := range []*pair{begun(t), full(t)} {
		for _, name := range noNames() {
			p.turn(2, 0, name, api.ErrOption).turn(9, -1, name, api.ErrOption)
		}
		for _, scope := range []int{math.MinInt, -1, 0, 1, 3, 4, 5, math.MaxInt} {
			p.turn(scope, 1, "status", api.ErrScope).turn(scope, -1, "status", api.ErrScope).turn(scope, -1, "prefix", api.ErrScope)
		}
		p.turn(4, 1, "synchronize", api.ErrScope).turn(2, 1, "scroll-keep", api.ErrScope).turn(1, 0, "scroll-keep", api.ErrScope)
		for _, id := range []int{math.MinInt, -1, api.MaxNumber + 1, math.MaxInt} {
			p.turn(2, id, "status", api.ErrArg).turn(2, id, "prefix", api.ErrArg).turn(3, id, "wrap-search", api.ErrArg).turn(4, id, "wrap-search", api.ErrArg)
		}
		p.turn(1, 1, "escape-time", api.ErrArg).turn(1, 0, "escape-time", api.ErrValue)
		p.look()
	}
}

func TestOP3TurnFull(t *testing.T) {
	p := filled(t, 499)
	p.turn(2, 1, "status", api.OK).turn(2, 2, "status", api.ErrFull).turn(2, 0, "set-titles", api.ErrFull).turn(2, 0, "prefix", api.ErrValue).look()
	p.turn(2, 1, "status", api.OK).is("status", 1, 0, 0, "on")
	p.turn(4, fillers+2, "scroll-keep", api.OK).is("scroll-keep", 0, 0, fillers+2, "on").look()
}

func TestOP4Unset(t *testing.T) {
	p := begun(t)
	for _, r := range sheet {
		for _, scope := range scopesOf(r) {
			for _, id := range []int{0, 1, 2, api.MaxNumber} {
				if scope == api.ScopeServer && id > 0 {
					continue
				}
				p.unset(scope, id, r.name, api.OK).set(scope, id, r.name, good(r), api.OK)
			}
		}
	}
	p.look()
	for _, r := range sheet {
		for _, scope := range scopesOf(r) {
			for _, id := range []int{1, 0, api.MaxNumber} {
				if scope == api.ScopeServer && id > 0 {
					continue
				}
				p.unset(scope, id, r.name, api.OK).look().unset(scope, id, r.name, api.OK)
			}
		}
	}
	p.look()
	p.unset(2, 5, "status", api.OK).unset(4, 5, "scroll-keep", api.OK).unset(3, 5, "scroll-keep", api.OK).look()
}

func TestOP4UnsetOneOfTwo(t *testing.T) {
	p := begun(t)
	p.set(3, 1, "scroll-keep", "off", api.OK).set(4, 1, "scroll-keep", "off", api.OK)
	p.unset(3, 1, "scroll-keep", api.OK).is("scroll-keep", 1, 1, 1, "off").is("scroll-keep", 1, 1, 2, "on").look()
	p.unset(4, 1, "scroll-keep", api.OK).is("scroll-keep", 1, 1, 1, "on").look()
	p.set(2, 0, "prefix", "C-a", api.OK).set(2, 1, "prefix", "M-x", api.OK)
	p.unset(2, 1, "prefix", api.OK).is("prefix", 1, 0, 0, "C-a")
	p.unset(2, 0, "prefix", api.OK).is("prefix", 1, 0, 0, "C-b").look()
}

func TestOP4Refuses(t *testing.T) {
	for _, p := range []*pair{begun(t), full(t)} {
		for _, name := range noNames() {
			p.unset(2, 0, name, api.ErrOption).unset(9, -1, name, api.ErrOption)
		}
		for _, r := range sheet {
			for _, scope := range []int{math.MinInt, -1, 0, 1, 2, 3, 4, 5, math.MaxInt} {
				if scope == r.scope || r.scope == 4 && scope == 3 {
					continue
				}
				p.unset(scope, 0, r.name, api.ErrScope).unset(scope, -1, r.name, api.ErrScope)
			}
			for _, scope := range scopesOf(r) {
				for _, id := range []int{math.MinInt, -1, api.MaxNumber + 1, math.MaxInt} {
					p.unset(scope, id, r.name, api.ErrArg)
				}
			}
		}
		p.unset(1, 1, "escape-time", api.ErrArg).unset(1, api.MaxNumber, "escape-time", api.ErrArg)
		p.look()
	}
}
