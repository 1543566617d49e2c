package binds

import (
	"math"
	"testing"

	"mullion/api"
)

// The keys of the tables that are pressed on, by what is bound to them.
var (
	prefixKey = api.Key{Code: 'b', Mods: api.ModCtrl}
	again     = char('u') // in prefix, it repeats; in menu too
	once      = char('s') // in prefix, it does not repeat; in menu too
	atRoot    = char('r') // in root, it repeats there
	both      = char('w') // in root and, repeating, in prefix
	empty     = char('e') // in root, prefix (repeating) and menu, with an empty line
	unbound   = char('a')
)

func pressing(t testing.TB) *pair {
	t.Helper()
	p := bare(t)
	for _, b := range []api.Binding{
		{Table: "prefix", Key: again, Repeat: true, Line: "U"},
		{Table: "prefix", Key: once, Line: "S"},
		{Table: "prefix", Key: both, Repeat: true, Line: "W"},
		{Table: "prefix", Key: empty, Repeat: true},
		{Table: "root", Key: atRoot, Repeat: true, Line: "R"},
		{Table: "root", Key: both, Line: "root W"},
		{Table: "root", Key: empty, Repeat: true},
		{Table: "menu", Key: again, Repeat: true, Line: "menu U"},
		{Table: "menu", Key: once, Line: "menu S"},
		{Table: "menu", Key: empty},
	} {
		p.bind(b, api.OK)
	}
	return p.look()
}

// step is a key that is pressed, and what comes of it.
type step struct {
	from         Walk
	key          api.Key
	tick, repeat int
	want         pressed
}

func wantSteps(t *testing.T, p *pair, prefix api.Key, steps []step) {
	t.Helper()
	for _, s := range steps {
		if got := p.press(s.from, prefix, s.key, s.tick, s.repeat); got != s.want {
			t.Errorf("Press(%v, %v, %v, %d, %d) is %v, and not %v", s.from, prefix, s.key, s.tick, s.repeat, got, s.want)
		}
	}
	p.look()
}

var (
	rest    = Walk{}
	behind  = Walk{Table: "prefix"}
	pane    = pressed{pane: true}
	nothing = pressed{}
)

func openTo(until int) Walk { return Walk{"prefix", until} }

func TestBI4StandingOpen(t *testing.T) {
	wantSteps(t, pressing(t), prefixKey, []step{
		// A binding that repeats: below Until, at it and above it.
		{openTo(7), again, 5, 2, pressed{openTo(7), "U", false}},
		{openTo(7), again, 6, 2, pressed{openTo(8), "U", false}},
		{openTo(7), again, 7, 2, pressed{openTo(9), "U", false}},
		{openTo(7), again, 8, 2, pane},
		{openTo(7), again, 0, 2, pressed{openTo(2), "U", false}},
		{openTo(1), again, 1, 1, pressed{openTo(2), "U", false}},
		{openTo(1), again, 2, 1, pane},
		{openTo(7), empty, 7, 2, pressed{openTo(9), "", false}},
		{openTo(7), empty, 8, 2, nothing},
		// How long it stands open.
		{openTo(7), again, 7, 1, pressed{openTo(8), "U", false}},
		{openTo(7), again, 7, 0, pressed{rest, "U", false}},
		{openTo(7), again, 7, -1, pressed{rest, "U", false}},
		{openTo(7), again, 7, math.MinInt, pressed{rest, "U", false}},
		{openTo(7), again, 8, 0, pane},
		// None that repeats: as at rest.
		{openTo(7), once, 6, 2, pane},
		{openTo(7), once, 8, 2, pane},
		{openTo(7), unbound, 6, 2, pane},
		{openTo(7), unbound, 8, 2, pane},
		{openTo(7), prefixKey, 6, 2, pressed{behind, "", false}},
		{openTo(7), prefixKey, 8, 2, pressed{behind, "", false}},
		{openTo(7), atRoot, 6, 2, pressed{rest, "R", false}},
		{openTo(7), atRoot, 8, 2, pressed{rest, "R", false}},
		// Bound in root too: by prefix in time, by root behind it.
		{openTo(7), both, 7, 2, pressed{openTo(9), "W", false}},
		{openTo(7), both, 8, 2, pressed{rest, "root W", false}},
	})
}

// The prefix key stands open like any other one, where it is bound in prefix and repeats.
func TestBI4StandingOpenThePrefixKey(t *testing.T) {
	p := pressing(t)
	wantSteps(t, p, again, []step{
		{openTo(7), again, 7, 2, pressed{openTo(9), "U", false}},
		{openTo(7), again, 8, 2, pressed{behind, "", false}},
		{openTo(7), again, 7, 0, pressed{rest, "U", false}},
	})
	wantSteps(t, p, once, []step{
		{openTo(7), once, 7, 2, pressed{behind, "", false}},
		{openTo(7), once, 8, 2, pressed{behind, "", false}},
	})
	wantSteps(t, p, both, []step{
		{openTo(7), both, 8, 2, pressed{behind, "", false}},
	})
}

func TestBI4BehindThePrefix(t *testing.T) {
	wantSteps(t, pressing(t), prefixKey, []step{
		{behind, once, 5, 2, pressed{rest, "S", false}},
		{behind, once, 5, 0, pressed{rest, "S", false}},
		{behind, again, 5, 2, pressed{openTo(7), "U", false}},
		{behind, again, 5, 1, pressed{openTo(6), "U", false}},
		{behind, again, 5, 0, pressed{rest, "U", false}},
		{behind, again, 5, -1, pressed{rest, "U", false}},
		{behind, again, 5, math.MinInt, pressed{rest, "U", false}},
		{behind, again, 0, 1, pressed{openTo(1), "U", false}},
		{behind, empty, 5, 2, pressed{openTo(7), "", false}},
		{behind, empty, 5, 0, nothing},
		{behind, both, 5, 0, pressed{rest, "W", false}},
		{behind, atRoot, 5, 2, nothing},
		{behind, unbound, 5, 2, nothing},
		{behind, prefixKey, 5, 2, pressed{rest, "send-prefix", false}},
		{behind, prefixKey, 5, 0, pressed{rest, "send-prefix", false}},
	})
}

// Until 0 and below is not open: whatever the tick, the prefix was pressed.
func TestBI4UntilBelowOne(t *testing.T) {
	for _, until := range []int{0, -1, -5, math.MinInt} {
		wantSteps(t, pressing(t), prefixKey, []step{
			{openTo(until), once, 9, 2, pressed{rest, "S", false}},
			{openTo(until), again, 9, 2, pressed{openTo(11), "U", false}},
			{openTo(until), again, 9, 0, pressed{rest, "U", false}},
			{openTo(until), unbound, 9, 2, nothing},
			{openTo(until), atRoot, 9, 2, nothing},
			{openTo(until), prefixKey, 9, 2, pressed{rest, "send-prefix", false}},
		})
	}
}

// A binding of the prefix key in prefix is ahead of send-prefix.
func TestBI4ThePrefixKeyIsBound(t *testing.T) {
	p := pressing(t)
	wantSteps(t, p, once, []step{{behind, once, 5, 2, pressed{rest, "S", false}}, {rest, once, 5, 2, pressed{behind, "", false}}})
	wantSteps(t, p, again, []step{{behind, again, 5, 2, pressed{openTo(7), "U", false}}, {behind, again, 5, 0, pressed{rest, "U", false}}})
	wantSteps(t, p, empty, []step{{behind, empty, 5, 2, pressed{openTo(7), "", false}}, {behind, empty, 5, 0, nothing}})
	p.unbind("prefix", once, api.OK)
	wantSteps(t, p, once, []step{{behind, once, 5, 2, pressed{rest, "send-prefix", false}}})
	p.bind(api.Binding{Table: "prefix", Key: prefixKey, Line: "bound"}, api.OK)
	wantSteps(t, p, prefixKey, []step{{behind, prefixKey, 5, 2, pressed{rest, "bound", false}}})
}

// In other tables nothing repeats, and the prefix key is like any other one.
func TestBI4OtherTables(t *testing.T) {
	p := pressing(t)
	for _, until := range []int{math.MinInt, -1, 0, 1, 5, 6, math.MaxInt} {
		menu, nowhere, root := Walk{"menu", until}, Walk{"no such table", until}, Walk{"root", until}
		wantSteps(t, p, prefixKey, []step{
			{menu, once, 5, 2, pressed{rest, "menu S", false}},
			{menu, again, 5, 2, pressed{rest, "menu U", false}},
			{menu, again, 5, 0, pressed{rest, "menu U", false}},
			{menu, empty, 5, 2, nothing},
			{menu, unbound, 5, 2, nothing},
			{menu, atRoot, 5, 2, nothing},
			{menu, prefixKey, 5, 2, nothing},
			{nowhere, again, 5, 2, nothing},
			{nowhere, prefixKey, 5, 2, nothing},
			{nowhere, unbound, 5, 2, nothing},
			{root, atRoot, 5, 2, pressed{rest, "R", false}},
			{root, unbound, 5, 2, nothing},
			{root, prefixKey, 5, 2, nothing},
			{Walk{"Prefix", until}, again, 5, 2, nothing},
			{Walk{"prefix ", until}, prefixKey, 5, 2, nothing},
		})
		wantSteps(t, p, again, []step{{menu, again, 5, 2, pressed{rest, "menu U", false}}})
	}
	begins := begun(t)
	wantSteps(t, begins, prefixKey, []step{
		{Walk{"copy-mode", 0}, char('q'), 5, 2, pressed{rest, "copy cancel", false}},
		{Walk{"copy-mode", 9}, char(api.KeyUp), 5, 2, pressed{rest, "copy cursor-up", false}},
		{Walk{"copy-mode", 0}, prefixKey, 5, 2, nothing},
	})
}

func TestBI4AtRest(t *testing.T) {
	p := pressing(t)
	for _, until := range []int{0, 1, 7, -1, math.MaxInt, math.MinInt} {
		from := Walk{"", until}
		wantSteps(t, p, prefixKey, []step{
			{from, prefixKey, 5, 2, pressed{behind, "", false}},
			{from, atRoot, 5, 2, pressed{rest, "R", false}},
			{from, both, 5, 2, pressed{rest, "root W", false}},
			{from, empty, 5, 2, nothing},
			{from, again, 5, 2, pane},
			{from, once, 5, 2, pane},
			{from, unbound, 5, 2, pane},
			{from, api.Key{Code: 'r', Mods: api.ModMeta}, 5, 2, pane},
			{from, api.Key{Code: 'b'}, 5, 2, pane},
			{from, api.Key{Code: 'b', Mods: api.ModMeta}, 5, 2, pane},
		})
		// The prefix key is looked for ahead of root.
		wantSteps(t, p, atRoot, []step{{from, atRoot, 5, 2, pressed{behind, "", false}}, {from, prefixKey, 5, 2, pane}})
	}
}

// The tick and what is added to it, up to the greatest int and above it, from both ways.
func TestBI4GreatTicks(t *testing.T) {
	const most = math.MaxInt
	for _, c := range []struct{ tick, repeat, until int }{
		{most, 1, most}, {most, most, most}, {most - 1, 1, most}, {most - 1, 2, most}, {most - 2, 1, most - 1}, {most - 9, 8, most - 1},
		{0, most, most}, {1, most, most}, {1, most - 1, most}, {2, most - 1, most}, {0, most - 1, most - 1}, {most / 2, most/2 + 1, most}, {most/2 + 1, most/2 + 1, most},
		{-1, most, most - 1}, {-1, 1, 0}, {-5, 2, -3}, {math.MinInt, 1, math.MinInt + 1}, {math.MinInt, most, -1}, {math.MinInt + 1, most, 0},
	} {
		want := pressed{openTo(c.until), "U", false}
		wantSteps(t, pressing(t), prefixKey, []step{
			{behind, again, c.tick, c.repeat, want},
			{openTo(most), again, c.tick, c.repeat, want},
			{openTo(max(1, c.tick)), again, c.tick, c.repeat, want},
			{behind, again, c.tick, 0, pressed{rest, "U", false}},
			{behind, once, c.tick, c.repeat, pressed{rest, "S", false}},
		})
	}
	wantSteps(t, pressing(t), prefixKey, []step{
		{openTo(most - 1), again, most, 1, pane},
		{openTo(most), again, most, 1, pressed{openTo(most), "U", false}},
		{openTo(1), again, math.MinInt, 1, pressed{openTo(math.MinInt + 1), "U", false}},
	})
}

// Keys and prefixes that are no keys are held against each other like any others.
func TestBI4KeysThatAreNone(t *testing.T) {
	p := pressing(t)
	for _, k := range append([]api.Key{{}}, wrongKeys...) {
		wantSteps(t, p, k, []step{
			{rest, k, 5, 2, pressed{behind, "", false}},
			{behind, k, 5, 2, pressed{rest, "send-prefix", false}},
			{openTo(7), k, 5, 2, pressed{behind, "", false}},
			{Walk{"menu", 0}, k, 5, 2, nothing},
			{rest, prefixKey, 5, 2, pane},
			{behind, prefixKey, 5, 2, nothing},
			{behind, once, 5, 2, pressed{rest, "S", false}},
		})
		wantSteps(t, p, prefixKey, []step{
			{rest, k, 5, 2, pane},
			{behind, k, 5, 2, nothing},
			{openTo(7), k, 5, 2, pane},
			{Walk{"menu", 7}, k, 5, 2, nothing},
		})
	}
}

// Half of the prefix key is not the prefix key.
func TestBI4CodeAndModsOfThePrefix(t *testing.T) {
	p := pressing(t)
	for _, k := range []api.Key{{Code: 'b'}, {Code: 'b', Mods: 6}, {Code: 'c', Mods: 4}, {Code: 4, Mods: 'b'}} {
		wantSteps(t, p, prefixKey, []step{{rest, k, 5, 2, pane}, {behind, k, 5, 2, nothing}})
	}
}

// All of these against the model: walks, prefixes, keys, ticks and numbers to repeat.
func TestBI4EveryWay(t *testing.T) {
	p := pressing(t)
	ints := []int{math.MinInt, -8, -1, 0, 1, 2, 5, 7, 8, math.MaxInt - 7, math.MaxInt - 1, math.MaxInt}
	pressable := []api.Key{{}, prefixKey, again, once, atRoot, both, empty, unbound, {Code: -1, Mods: -1}, {Code: 'u', Mods: 2}}
	for _, table := range []string{"", "prefix", "root", "menu", "copy-mode", "a b", "\xff"} {
		for _, until := range ints {
			for _, prefix := range pressable {
				for _, k := range pressable {
					for _, tick := range ints {
						for _, repeat := range ints {
							p.press(Walk{table, until}, prefix, k, tick, repeat)
						}
					}
					if t.Failed() {
						return
					}
				}
			}
		}
	}
	p.look()
}

// Every binding of the beginning, behind the prefix.
func TestBI4TheBeginning(t *testing.T) {
	p := begun(t)
	for _, b := range firstBook().all {
		want := pressed{rest, b.Line, false}
		if b.Repeat {
			want.walk = openTo(13)
		}
		wantSteps(t, p, prefixKey, []step{{Walk{Table: b.Table}, b.Key, 10, 3, want}, {rest, b.Key, 10, 3, pane}})
	}
}
