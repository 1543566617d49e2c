package wire

import (
	"slices"
	"strings"
	"testing"

	"mullion/api"
)

// plainEvents is one event of every kind, in the order of the kinds.
func plainEvents() []api.Event {
	var l []api.Event
	for _, r := range rows {
		l = append(l, plain(r.kind, r.line))
	}
	return l
}

func TestW3Text(t *testing.T) {
	lines := plainLines()
	for n := range len(lines) + 1 {
		want := ""
		if n > 0 {
			want = strings.Join(lines[:n], "\n") + "\n"
		}
		if got, err := Text(plainEvents()[:n]); got != want || err != api.OK {
			t.Fatalf("Text of %d events = %q, %d; want %q", n, got, err, want)
		}
	}
	for _, none := range [][]api.Event{nil, {}} {
		if got, err := Text(none); got != "" || err != api.OK {
			t.Errorf("Text of no event = %q, %d", got, err)
		}
	}
	again := []api.Event{{Kind: api.EvExit}, {Kind: api.EvBody}, {Kind: api.EvBody}, {Kind: api.EvExit}, {Kind: api.EvMessage}}
	if got, err := Text(again); got != "%exit\n\n\n%exit\n%message \n" || err != api.OK {
		t.Errorf("Text = %q, %d", got, err)
	}
}

func TestW3OneThatIsNotWritable(t *testing.T) {
	good := plainEvents()
	bads := append(badEvents()[:40:40], api.Event{}, api.Event{Kind: api.EvBad}, api.Event{Kind: api.EvBad, Text: "%exit"}, api.Event{Kind: api.EvBad + 1}, api.Event{Kind: -1})
	for _, bad := range bads {
		for _, at := range []int{0, 1, len(good) / 2, len(good)} {
			if got, err := Text(slices.Insert(slices.Clone(good), at, bad)); got != "" || err != api.ErrEvent {
				t.Fatalf("Text with %.300v at %d = %q, %d", bad, at, short(got), err)
			}
		}
		if got, err := Text([]api.Event{bad}); got != "" || err != api.ErrEvent {
			t.Fatalf("Text of %.300v = %q, %d", bad, short(got), err)
		}
	}
}

func wantEvents(t *testing.T, text string, want []api.Event, rest string) {
	t.Helper()
	got, left := Events(text)
	if !slices.Equal(got, want) || left != rest {
		t.Fatalf("Events(%q) = %d events, %.200v, %q; want %d, %.200v, %q", short(text), len(got), got, short(left), len(want), want, short(rest))
	}
}

func TestW4Events(t *testing.T) {
	body := func(s string) api.Event { return api.Event{Kind: api.EvBody, Text: s} }
	bad := func(s string) api.Event { return api.Event{Kind: api.EvBad, Text: s} }
	exit := api.Event{Kind: api.EvExit}
	great := strings.Repeat("x", 3*api.MaxLine)
	for _, c := range []struct {
		text string
		want []api.Event
		rest string
	}{
		{"", nil, ""},
		{"ab", nil, "ab"},
		{"%exit", nil, "%exit"},
		{"\n", []api.Event{body("")}, ""},
		{"\n\n", []api.Event{body(""), body("")}, ""},
		{"%exit\nab", []api.Event{exit}, "ab"},
		{"%exit\n%exit\n\n%exi", []api.Event{exit, exit, body("")}, "%exi"},
		{"%exit\r\n", []api.Event{bad("%exit\r")}, ""},
		{"%\n%%\n\x00\nx\n%exit \n", []api.Event{bad("%"), bad("%%"), bad("\x00"), body("x"), bad("%exit ")}, ""},
		{"%nothing\n%message \n\x00\xff", []api.Event{bad("%nothing"), {Kind: api.EvMessage}}, "\x00\xff"},
		{great + "\n%" + great + "\n" + great, []api.Event{body(great), bad("%" + great)}, great},
	} {
		wantEvents(t, c.text, c.want, c.rest)
	}
}

func TestW4EventsOfAnyText(t *testing.T) {
	for _, text := range scrambled(2000) {
		lines := strings.Split(text, "\n")
		last := len(lines) - 1
		var want []api.Event
		for _, line := range lines[:last] {
			want = append(want, Decode(line))
		}
		wantEvents(t, text, want, lines[last])
	}
}

func TestW4AListThatWasToldIsItsCallers(t *testing.T) {
	const text = "%exit why\n%nothing\nbody\n%win"
	first, rest := Events(text)
	clear(first[:cap(first)])
	again, _ := Events(text)
	want := []api.Event{{Kind: api.EvExit, Text: "why"}, {Kind: api.EvBad, Text: "%nothing"}, {Kind: api.EvBody, Text: "body"}}
	if !slices.Equal(again, want) || rest != "%win" {
		t.Errorf("Events = %v, %q", again, rest)
	}
	if first = append(first, want...); !slices.Equal(again, want) {
		t.Errorf("Events = %v", again)
	}
}

func TestW8EventsOfText(t *testing.T) {
	var l []api.Event
	for e := range goodEvents() {
		l = append(l, e)
	}
	for _, list := range [][]api.Event{nil, plainEvents(), l, l[:1], append(l, l...)} {
		text, err := Text(list)
		if err != api.OK {
			t.Fatal(err)
		}
		wantEvents(t, text, list, "")
		wantEvents(t, text+"%exi", list, "%exi")
	}
}

func TestW8CutAtEveryPlace(t *testing.T) {
	whole, _ := Text(plainEvents())
	for _, text := range append(scrambled(200), whole, whole+"%end 1", "%nothing\n\x00\n%exit", "\n\n\n") {
		want, rest := Events(text)
		for i := range len(text) + 1 {
			first, left := Events(text[:i])
			second, end := Events(left + text[i:])
			if got := append(first, second...); !slices.Equal(got, want) || end != rest {
				t.Fatalf("%q cut at %d: %v, %q", text, i, got, end)
			}
		}
	}
}
