package options

import (
	"math"
	"testing"

	"mullion/api"
)

// spot is where something may be set.
type spot struct{ scope, id int }

// cantBe are ids for which nothing can be set.
var cantBe = []int{-1, math.MinInt, api.MaxNumber + 1, math.MaxInt}

// An option of the server has one value, whoever asks.
func TestOP5Server(t *testing.T) {
	p := begun(t)
	for _, value := range []string{"", "7", "9"} {
		if value != "" {
			p.set(1, 0, "escape-time", value, api.OK)
		} else {
			value = "1"
		}
		for _, id := range someIds {
			p.is("escape-time", id, id, id, value).is("escape-time", id, 0, 0, value).is("buffer-limit", id, id, id, "20")
		}
	}
}

// way is the ids that are handed to Get.
type way struct{ session, window, pane int }

// The session, or the window, itself; then all of them; then the beginning: each value is its own.
func TestOP5SessionsAndWindows(t *testing.T) {
	for _, c := range []struct {
		scope       int
		name, first string
		ask         func(id int) way
	}{
		{2, "base-index", "0", func(id int) way { return way{id, 5, 6} }},
		{2, "status-left", "[#{session_name}]", func(id int) way { return way{id, 2, 2} }},
		{3, "window-format", "#{window_index}:#{window_name}#{window_flags}", func(id int) way { return way{5, id, 6} }},
	} {
		for sets := range 8 {
			p := begun(t)
			values := map[int]string{}
			for i, id := range []int{0, 1, 2} {
				if sets>>i&1 == 1 {
					values[id] = []string{"10", "11", "12"}[i]
					p.set(c.scope, id, c.name, values[id], api.OK)
				}
			}
			for _, id := range append([]int{0, 1, 2, 3, api.MaxNumber}, cantBe...) {
				want := c.first
				if value, is := values[0]; is {
					want = value
				}
				if value, is := values[id]; is {
					want = value
				}
				w := c.ask(id)
				p.is(c.name, w.session, w.window, w.pane, want)
			}
			p.look()
		}
	}
}

// Each of the four places not set, on or off: the pane, its window, all panes, all windows, in this order.
func TestOP5Panes(t *testing.T) {
	order := []spot{{4, 7}, {3, 5}, {4, 0}, {3, 0}}
	for _, name := range []string{"scroll-keep", "wrap-search"} {
		for sets := range 81 {
			p := begun(t)
			want, found := "on", false
			rest := sets
			for _, at := range order {
				value := []string{"", "off", "on"}[rest%3]
				rest /= 3
				if value == "" {
					continue
				}
				p.set(at.scope, at.id, name, value, api.OK)
				if !found {
					want, found = value, true
				}
			}
			p.is(name, 1, 5, 7, want).is(name, 0, 5, 7, want).is(name, -1, 5, 7, want).look()
		}
	}
}

// valueOf is what the first of some spots says, by what is set.
func valueOf(set map[spot]string, order ...spot) string {
	for _, at := range order {
		if value, is := set[at]; is {
			return value
		}
	}
	return "on"
}

// The same with other ids handed in: other panes and windows, all of them, and such as can't be.
func TestOP5PanesOtherIds(t *testing.T) {
	order := []spot{{4, 7}, {3, 5}, {4, 0}, {3, 0}, {4, 5}, {3, 7}}
	for sets := range 729 {
		p := begun(t)
		set := map[spot]string{}
		rest := sets
		for _, at := range order {
			if value := []string{"", "off", "on"}[rest%3]; value != "" {
				p.set(at.scope, at.id, "scroll-keep", value, api.OK)
				set[at] = value
			}
			rest /= 3
		}
		for _, window := range append([]int{0, 5, 7, 6}, cantBe...) {
			for _, pane := range append([]int{0, 5, 7, 6}, cantBe...) {
				p.is("scroll-keep", 7, window, pane, valueOf(set, spot{4, pane}, spot{3, window}, spot{4, 0}, spot{3, 0}))
			}
		}
	}
}

// A pane that is handed in as 0 stands for all panes, and these are looked at ahead of the window.
func TestOP5ZeroStandsForAll(t *testing.T) {
	p := begun(t)
	p.set(4, 0, "scroll-keep", "off", api.OK).set(3, 5, "scroll-keep", "on", api.OK)
	p.is("scroll-keep", 1, 5, 0, "off").is("scroll-keep", 1, 5, 7, "on").is("scroll-keep", 1, 0, 7, "off").is("scroll-keep", 1, 0, 0, "off")
	p.set(2, 0, "prefix", "C-a", api.OK).set(2, 1, "prefix", "M-x", api.OK).is("prefix", 0, 1, 1, "C-a").is("prefix", 1, 0, 0, "M-x")
	p.set(3, 0, "synchronize", "on", api.OK).set(3, 1, "synchronize", "off", api.OK).is("synchronize", 1, 0, 1, "on").is("synchronize", 0, 1, 0, "off").look()
}

// What is set for one option, of one scope, is nothing to the others.
func TestOP5NoOtherOption(t *testing.T) {
	for _, r := range sheet {
		for _, scope := range scopesOf(r) {
			p := begun(t)
			p.set(scope, 0, r.name, good(r), api.OK)
			if scope != api.ScopeServer {
				p.set(scope, 1, r.name, good(r), api.OK)
			}
			for _, other := range sheet {
				want := other.first
				if other.name == r.name {
					want = good(r)
				}
				for _, id := range []int{0, 1, 2, -1} {
					p.is(other.name, id, id, id, want)
				}
			}
		}
	}
}

func TestOP5NoSuchOption(t *testing.T) {
	for _, p := range []*pair{begun(t), full(t)} {
		for _, name := range noNames() {
			for _, id := range []int{0, 1, -1, math.MaxInt} {
				if got, err := p.options.Get(name, id, id, id); got != "" || err != api.ErrOption {
					t.Errorf("Get(%.60q) is %q, %d", name, got, err)
				}
			}
		}
	}
}

// An empty text that is set counts, as any other.
func TestOP5EmptyTexts(t *testing.T) {
	p := begun(t)
	p.set(2, 0, "status-left", "all", api.OK).set(2, 1, "status-left", "", api.OK).is("status-left", 1, 0, 0, "").is("status-left", 2, 0, 0, "all")
	p.set(2, 0, "status-left", "", api.OK).is("status-left", 2, 0, 0, "").look()
}
