package exec

import (
	"fmt"
	"math"
	"slices"
	"strings"
	"testing"

	"mullion/api"
	"mullion/store"
)

func place(session, index, window, pane int) api.Place {
	return api.Place{Session: session, Index: index, Window: window, Pane: pane}
}

// names are those of the chapter, in its order.
const names = "pane_active, pane_bytes, pane_height, pane_id, pane_index, pane_left, pane_top, pane_width, session_id, session_name, session_windows, window_active, window_flags, window_height, window_id, window_index, window_layout, window_name, window_panes, window_visible_layout, window_width, window_zoomed_flag"

// vars holds the values at a place, all of them, in the order of the names.
func (d *desk) vars(p api.Place, want ...string) *desk {
	d.t.Helper()
	got, all := Vars(d.st, p), strings.Split(names, ", ")
	for i, v := range got {
		if i >= len(all) || v.Name != all[i] {
			d.t.Fatalf("Vars(%v): the name %d is %q", p, i, v.Name)
		}
		if i >= len(want) || v.Value != want[i] {
			d.t.Errorf("Vars(%v): %s is %q; want %q", p, v.Name, v.Value, want[i:min(i+1, len(want))])
		}
	}
	if len(got) != len(want) {
		d.t.Errorf("Vars(%v) has %d values; want %d", p, len(got), len(want))
	}
	return d
}

func TestE4Names(t *testing.T) {
	all := strings.Split(names, ", ")
	if len(all) != 22 || !slices.IsSorted(all) {
		t.Fatalf("the test's own names: %q", all)
	}
	for _, p := range []api.Place{place(1, 0, 1, 1), place(1, 1, 2, 2), place(1, 1, 2, 3), place(2, 0, 3, 4), place(2, 5, 1, 1)} {
		var got []string
		for _, v := range Vars(world(t).st, p) {
			got = append(got, v.Name)
		}
		if !slices.Equal(got, all) {
			t.Errorf("Vars(%v): %q", p, got)
		}
	}
}

func TestE4Values(t *testing.T) {
	const row = "820e,80x24,0,0{40x24,0,0,2,39x24,41,0,3}"
	d := world(t).write(1, "abc").write(3, strings.Repeat("x", 250))
	d.vars(place(1, 0, 1, 1), "1", "3", "24", "%1", "0", "0", "0", "80", "$1", "work", "2", "0", "-", "24", "@1", "0",
		"b25e,80x24,0,0,1", "sh", "1", "b25e,80x24,0,0,1", "80", "0")
	d.vars(place(2, 5, 1, 1), "1", "3", "24", "%1", "0", "0", "0", "80", "$2", "play", "2", "0", "", "24", "@1", "5",
		"b25e,80x24,0,0,1", "sh", "1", "b25e,80x24,0,0,1", "80", "0")
	d.vars(place(1, 1, 2, 2), "0", "0", "24", "%2", "0", "0", "0", "40", "$1", "work", "2", "1", "*", "24", "@2", "1",
		row, "edit", "2", row, "80", "0")
	d.vars(place(1, 1, 2, 3), "1", "250", "24", "%3", "1", "41", "0", "39", "$1", "work", "2", "1", "*", "24", "@2", "1",
		row, "edit", "2", row, "80", "0")
}

// The pane's sides are those of the layout, also when the window is zoomed; the visible layout is the active pane alone.
func TestE4Zoom(t *testing.T) {
	d := world(t).ok("splitw -l 5").ok("resizew -x 81 -y 30").ok("resizep -Z -t %2")
	d.has("@2 edit 81x30{41x30%2 39x30[39x21%3 39x8%5]} now 2 last 5 zoom")
	const column = "16a6,81x30,0,0{41x30,0,0,2,39x30,42,0[39x21,42,0,3,39x8,42,22,5]}"
	d.vars(place(1, 1, 2, 2), "1", "0", "30", "%2", "0", "0", "0", "41", "$1", "work", "2", "1", "*Z", "30", "@2", "1",
		column, "edit", "3", "a4df,81x30,0,0,2", "81", "1")
	d.vars(place(1, 1, 2, 5), "0", "0", "8", "%5", "2", "42", "22", "39", "$1", "work", "2", "1", "*Z", "30", "@2", "1",
		column, "edit", "3", "a4df,81x30,0,0,2", "81", "1")
	d.ok("selectw -t 0").vars(place(1, 1, 2, 3), "0", "0", "21", "%3", "1", "42", "0", "39", "$1", "work", "2", "0", "-Z", "30", "@2", "1",
		column, "edit", "3", "a4df,81x30,0,0,2", "81", "1")
	d.ok("linkw -d -s :1 -t 9").vars(place(1, 9, 2, 3), "0", "0", "21", "%3", "1", "42", "0", "39", "$1", "work", "3", "0", "Z", "30", "@2", "9",
		column, "edit", "3", "a4df,81x30,0,0,2", "81", "1")
	d.ok("resizep -Z -t %2").vars(place(1, 9, 2, 3), "0", "0", "21", "%3", "1", "42", "0", "39", "$1", "work", "3", "0", "", "30", "@2", "9",
		column, "edit", "3", column, "81", "0")
}

// The flags of a window hang on the index, not on the window: one window at three indices.
func TestE4FlagsByIndex(t *testing.T) {
	d := empty(t).ok("new -s a").ok("linkw -s :0 -t 3").ok("linkw -d -s :0 -t 7")
	for index, want := range map[int]string{0: "-", 3: "*", 7: ""} {
		p := place(1, index, 1, 1)
		if got := value(d.st, p, "window_flags"); got != want {
			t.Errorf("window_flags at %d: %q; want %q", index, got, want)
		}
		if got, want := value(d.st, p, "window_active"), fmt.Sprint(strings.Count(want, "*")); got != want {
			t.Errorf("window_active at %d: %q; want %q", index, got, want)
		}
	}
}

func value(st *store.Store, p api.Place, name string) string {
	for _, v := range Vars(st, p) {
		if v.Name == name {
			return v.Value
		}
	}
	return "none"
}

// A place of which one number is another one is none, whatever of it is there.
func TestE4NoPlace(t *testing.T) {
	d := world(t)
	good := []api.Place{place(1, 0, 1, 1), place(1, 1, 2, 2), place(1, 1, 2, 3), place(2, 0, 3, 4), place(2, 5, 1, 1)}
	numbers := []int{math.MinInt, -2, -1, 0, 1, 2, 3, 4, 5, 6, 9999, 10000, api.MaxNumber, math.MaxInt}
	places, none := 0, 0
	for _, session := range numbers {
		for _, index := range numbers {
			for _, window := range numbers {
				for _, pane := range numbers {
					p := place(session, index, window, pane)
					got := len(Vars(d.st, p))
					if want := slices.Contains(good, p); want && got != 22 || !want && got != 0 {
						t.Fatalf("Vars(%v) has %d values", p, got)
					}
					if got > 0 {
						places++
					} else {
						none++
					}
				}
			}
		}
	}
	if places != len(good) || none == 0 {
		t.Errorf("%d places, %d others", places, none)
	}
	for _, p := range good {
		if got := Vars(empty(t).st, p); len(got) != 0 {
			t.Errorf("of an empty store: %v", got)
		}
	}
}

// What is asked for changes nothing, and follows what is done.
func TestE4Follows(t *testing.T) {
	d := world(t)
	was := whole(d.st)
	Vars(d.st, place(1, 1, 2, 3))
	if whole(d.st) != was {
		t.Error("Vars has changed the store")
	}
	d.ok("rename -t play other").ok("renamew -t @1 shell").ok("movew -d -s other:5 -t other:44").write(1, "12")
	d.vars(place(2, 44, 1, 1), "1", "2", "24", "%1", "0", "0", "0", "80", "$2", "other", "2", "0", "", "24", "@1", "44",
		"b25e,80x24,0,0,1", "shell", "1", "b25e,80x24,0,0,1", "80", "0")
	d.vars(place(2, 5, 1, 1))
}
