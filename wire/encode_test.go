package wire

import (
	"math"
	"reflect"
	"testing"

	"mullion/api"
)

func wantNoLine(t *testing.T, e api.Event) {
	t.Helper()
	if line, err := Encode(e); line != "" || err != api.ErrEvent {
		t.Fatalf("Encode(%.300v) = %q, %d; want nothing and %d", e, short(line), err, api.ErrEvent)
	}
}

func wantLine(t *testing.T, e api.Event, want string) {
	t.Helper()
	if line, err := Encode(e); line != want || err != api.OK {
		t.Fatalf("Encode(%.300v) = %q, %d; want %q", e, short(line), err, short(want))
	}
}

func TestW1EveryKindHasItsLine(t *testing.T) {
	for e, want := range map[api.Event]string{
		{Kind: api.EvBegin, Tick: 3, Number: 7, Flag: 1}: "%begin 3 7 1",
		{Kind: api.EvEnd, Tick: 3, Number: 7, Flag: 0}:   "%end 3 7 0",
		{Kind: api.EvError, Tick: 0, Number: 0, Flag: 1}: "%error 0 0 1",
		{Kind: api.EvBody}:                                                                      "",
		{Kind: api.EvBody, Text: "two words "}:                                                  "two words ",
		{Kind: api.EvBody, Text: "%end 3 7 1"}:                                                  `\045end 3 7 1`,
		{Kind: api.EvBody, Text: "a%\t\\"}:                                                      `a%\011\134`,
		{Kind: api.EvOutput, Pane: 2, Text: "a\nb"}:                                             `%output %2 a\012b`,
		{Kind: api.EvOutput, Pane: 2, Text: "%x"}:                                               "%output %2 %x",
		{Kind: api.EvPause, Pane: 3, Offset: 17}:                                                "%pause %3 17",
		{Kind: api.EvContinue, Pane: 3, Offset: 0}:                                              "%continue %3 0",
		{Kind: api.EvPaneAdd, Pane: 4, Offset: 4611686018427387904}:                             "%pane-add %4 4611686018427387904",
		{Kind: api.EvPaneClose, Pane: 4611686018427387904}:                                      "%pane-close %4611686018427387904",
		{Kind: api.EvWindowAdd, Window: 5, Name: "sh"}:                                          "%window-add @5 sh",
		{Kind: api.EvWindowClose, Window: 5}:                                                    "%window-close @5",
		{Kind: api.EvWindowRenamed, Window: 5, Name: "my own"}:                                  "%window-renamed @5 my own",
		{Kind: api.EvLayout, Window: 1, Layout: "b25d,80x24,0,0,1", Visible: "0"}:               "%layout-change @1 b25d,80x24,0,0,1 0 -",
		{Kind: api.EvLayout, Window: 1, Layout: "{[", Visible: "]}", Zoom: true}:                "%layout-change @1 {[ ]} Z",
		{Kind: api.EvPaneChanged, Window: 6, Pane: 7}:                                           "%window-pane-changed @6 %7",
		{Kind: api.EvSessionAdd, Session: 8, Name: "work 2"}:                                    "%session-add $8 work 2",
		{Kind: api.EvSessionClose, Session: 8}:                                                  "%session-close $8",
		{Kind: api.EvSessionRenamed, Session: 8, Name: "x"}:                                     "%session-renamed $8 x",
		{Kind: api.EvLink, Session: 8, Index: 9999, Window: 6}:                                  "%window-link $8 9999 @6",
		{Kind: api.EvUnlink, Session: 8, Index: 0}:                                              "%window-unlink $8 0",
		{Kind: api.EvSessionWindow, Session: 8, Index: 10}:                                      "%session-window-changed $8 10",
		{Kind: api.EvSession, Session: 8, Name: "x"}:                                            "%session-changed $8 x",
		{Kind: api.EvWatch, Name: "w", Session: 1, Window: 2, Index: 0, Pane: 3, Text: "x : y"}: "%subscription-changed w $1 @2 0 %3 : x : y",
		{Kind: api.EvWatch, Name: "w", Session: 1, Window: 2, Index: 5, Pane: 3}:                "%subscription-changed w $1 @2 5 %3 : ",
		{Kind: api.EvWatch, Name: "a", Session: 9, Window: 8, Index: 7, Pane: 6, Text: " "}:     "%subscription-changed a $9 @8 7 %6 :  ",
		{Kind: api.EvMessage}:                                                                   "%message ",
		{Kind: api.EvMessage, Text: "%exit\n"}:                                                  `%message %exit\012`,
		{Kind: api.EvExit}:                                                                      "%exit",
		{Kind: api.EvExit, Text: "detached"}:                                                    "%exit detached",
		{Kind: api.EvExit, Text: " "}:                                                           "%exit  ",
	} {
		wantLine(t, e, want)
	}
}

func TestW1GreatestAndLongest(t *testing.T) {
	for e, want := range goodEvents() {
		wantLine(t, e, want)
	}
}

func TestW1FieldsThatCannotBe(t *testing.T) {
	for _, e := range badEvents() {
		wantNoLine(t, e)
	}
}

func TestW1FieldsThatTheRowDoesNotName(t *testing.T) {
	for _, r := range rows {
		named := map[string]bool{"Kind": true}
		for _, w := range thingsOf(r.line) {
			named[ways[w].field] = true
		}
		shape := reflect.TypeFor[api.Event]()
		strays := 0
		for i := range shape.NumField() {
			field := shape.Field(i).Name
			if named[field] {
				continue
			}
			for _, v := range []any{1, -1, "a", "%exit", " ", true} {
				e := plain(r.kind, r.line)
				if shape.Field(i).Type == reflect.TypeOf(v) {
					put(&e, field, v)
					wantNoLine(t, e)
					strays++
				}
			}
		}
		if strays < 10 {
			t.Fatalf("%s: only %d strays", r.line, strays)
		}
	}
}

func TestW1KindsWithoutALine(t *testing.T) {
	for _, kind := range []int{api.EvNone, api.EvBad, api.EvBad + 1, api.EvBad + 100, -1, -api.EvBody, math.MinInt, math.MaxInt} {
		wantNoLine(t, api.Event{Kind: kind})
		wantNoLine(t, api.Event{Kind: kind, Text: "x"})
		wantNoLine(t, api.Event{Kind: kind, Text: "%exit"})
		for _, r := range rows {
			e := plain(r.kind, r.line)
			e.Kind = kind
			wantNoLine(t, e)
		}
	}
}

// A plan with a blank in it could pass for two plans, a name with one for a name and a field behind it.
func TestW1BlanksDoNotShiftFields(t *testing.T) {
	for _, e := range []api.Event{
		{Kind: api.EvLayout, Window: 1, Layout: "0 1", Visible: ""},
		{Kind: api.EvLayout, Window: 1, Layout: "", Visible: "0 1"},
		{Kind: api.EvLayout, Window: 1, Layout: "0", Visible: "1 -"},
		{Kind: api.EvWatch, Name: "w $1", Window: 1, Pane: 1},
		{Kind: api.EvWatch, Name: "w $1 @1 1 %1 :", Session: 1, Window: 1, Pane: 1},
		{Kind: api.EvLayout, Window: 1, Layout: "0 1 Z\n%exit", Visible: "1"},
		{Kind: api.EvWindowAdd, Window: 1, Name: "a\n%exit"},
	} {
		wantNoLine(t, e)
	}
}
