package mirror

import (
	"strings"
	"testing"

	"mullion/api"
	"mullion/wire"
)

// kinds is a line of each kind of events, none of which asks for more than a greeting has.
func kinds() map[int]string {
	return map[int]string{
		api.EvBegin:          "%begin 4 1 1",
		api.EvEnd:            "%end 4 1 1",
		api.EvError:          "%error 4 1 1",
		api.EvBody:           "hello",
		api.EvOutput:         "%output %1 ab",
		api.EvPause:          "%pause %1 8",
		api.EvContinue:       "%continue %1 8",
		api.EvPaneAdd:        "%pane-add %3 5",
		api.EvPaneClose:      "%pane-close %1",
		api.EvWindowAdd:      "%window-add @2 two",
		api.EvWindowClose:    "%window-close @1",
		api.EvWindowRenamed:  "%window-renamed @1 name",
		api.EvLayout:         "%layout-change @1 " + onePlan + " " + onePlan + " -",
		api.EvPaneChanged:    "%window-pane-changed @1 %1",
		api.EvSessionAdd:     "%session-add $2 two",
		api.EvSessionClose:   "%session-close $1",
		api.EvSessionRenamed: "%session-renamed $1 name",
		api.EvLink:           "%window-link $1 4 @1",
		api.EvUnlink:         "%window-unlink $1 0",
		api.EvSessionWindow:  "%session-window-changed $1 0",
		api.EvSession:        "%session-changed $7 seven",
		api.EvWatch:          "%subscription-changed w $1 @1 0 %1 : v",
		api.EvMessage:        "%message hello",
		api.EvExit:           "%exit detached",
		api.EvBad:            "%nothing",
	}
}

// There is a line of each kind, and it is of that kind.
func TestM3KindsAreAll(t *testing.T) {
	l := kinds()
	for kind := api.EvBegin; kind <= api.EvBad; kind++ {
		if got := wire.Decode(l[kind]).Kind; got != kind {
			t.Errorf("%q is of the kind %d, and not %d", l[kind], got, kind)
		}
	}
}

// Behind a greeting every kind may come but what belongs to a block, what goes on without a pause, and what goes while it is in use.
func TestM3EachKindOutside(t *testing.T) {
	refused := map[int]bool{api.EvEnd: true, api.EvError: true, api.EvBody: true, api.EvContinue: true, api.EvPaneClose: true, api.EvWindowClose: true, api.EvBad: true}
	for kind, line := range kinds() {
		if p := greeted(t); refused[kind] {
			p.breaks(line)
		} else {
			p.follows(line)
		}
	}
}

// In a block nothing may come but a line of it and its end.
func TestM3EachKindInABlock(t *testing.T) {
	named := map[int]bool{api.EvBody: true, api.EvEnd: true, api.EvError: true}
	for _, ahead := range [][]string{nil, {"x"}, {"x", "", "y"}} {
		for kind, line := range kinds() {
			for _, p := range []*pair{begun(t), greeted(t)} {
				p.follows("%begin 4 1 1").follows(ahead...)
				if named[kind] {
					p.follows(line)
				} else {
					p.breaks(line)
				}
			}
		}
	}
}

// Behind an exit nothing may come at all.
func TestM3EachKindBehindAnExit(t *testing.T) {
	for _, exit := range []string{"%exit", "%exit detached"} {
		for _, line := range kinds() {
			begun(t).follows(exit).breaks(line)
			greeted(t).follows("%output %1 ab", exit).breaks(line)
		}
	}
}

// Lines that are no event's break it, wherever they come.
func TestM3NoEvents(t *testing.T) {
	bad := []string{
		"%", "%%", "% ", "%nothing", "%begin", "%begin 4 1", "%begin 4 1 2", "%begin 04 1 1", "%begin 4 1 1 ", " %begin 4 1 1\t", "%Begin 4 1 1", "%end", "%end 4 1 01", "%error 4 1",
		"%output %1 ", "%output %1", "%output 1 a", "%output %1 a\tb", `%output %1 \101`, "%output %1 " + strings.Repeat("o", api.MaxOutput+1), "%pause %1", "%pause %1 -8", "%pause %1 4611686018427387905",
		"%pane-add %0 0", "%pane-add %4611686018427387905 0", "%pane-close 1", "%window-add @2", "%window-add @2 a:b", "%session-changed $1", "%message", "%message \x01", "%exit ", "%exit\r", "\r", "a\tb", `\9`, `x\045`,
		"%subscription-changed w $1 @1 0 %1 v", "%message " + strings.Repeat("m", api.MaxText+1),
	}
	for _, line := range bad {
		if e := wire.Decode(line); e.Kind != api.EvBad {
			t.Fatalf("%q is an event: %+v", line, e)
		}
		begun(t).breaks(line)
		greeted(t).breaks(line)
		greeted(t).follows("%begin 4 1 1", "x").breaks(line)
		begun(t).follows("%exit").breaks(line)
	}
}

func TestM3Blocks(t *testing.T) {
	greeted(t).follows("%begin 3 1 1", "%end 3 1 1", "%begin 3 2 1", "one", "", `\045two\012`, "%error 3 2 1", "%begin 4 3 1", "", "%end 4 3 1").replies(
		api.Reply{Tick: 3, Good: true},
		api.Reply{Tick: 3, Number: 1, Flag: 1, Good: true},
		api.Reply{Tick: 3, Number: 2, Flag: 1, Body: []string{"one", "", "%two\n"}},
		api.Reply{Tick: 4, Number: 3, Flag: 1, Good: true, Body: []string{""}},
	)
	begun(t).follows("%begin 1 1 1", "hello", "%end 1 1 1").replies(api.Reply{Tick: 1, Number: 1, Flag: 1, Good: true, Body: []string{"hello"}})
	begun(t).follows("%begin 4611686018427387904 4611686018427387904 0", "%error 4611686018427387904 4611686018427387904 0").replies(
		api.Reply{Tick: api.MaxNumber, Number: api.MaxNumber})
}

// What stands in a block is a reply when it ends, and not ahead of that.
func TestM3ABlockThatHasNotEnded(t *testing.T) {
	p := begun(t).follows("%begin 1 1 1", "a", "%end 1 1 1", "%begin 2 2 1", "b")
	one := api.Reply{Tick: 1, Number: 1, Flag: 1, Good: true, Body: []string{"a"}}
	p.replies(one)
	p.feed("%end 2 2 1").replies(one)
	p.feed("\n").replies(one, api.Reply{Tick: 2, Number: 2, Flag: 1, Good: true, Body: []string{"b"}})
}

// The guards of a block have one Tick, one Number and one Flag.
func TestM3Guards(t *testing.T) {
	numbers := []string{"0", "1", "2", "10", "4611686018427387904"}
	for _, begin := range []string{"0 0 0", "1 1 1", "1 1 0", "2 1 1", "10 2 1"} {
		for _, tick := range numbers {
			for _, number := range numbers {
				for _, flag := range []string{"0", "1"} {
					for _, word := range []string{"%end ", "%error "} {
						guard := tick + " " + number + " " + flag
						p := begun(t).follows("%begin "+begin, "x")
						if guard == begin {
							p.follows(word + guard)
						} else {
							p.breaks(word + guard)
						}
					}
				}
			}
		}
	}
}

// Numbers of blocks need not rise, nor be new.
func TestM3NumbersOfBlocks(t *testing.T) {
	p := begun(t)
	for _, guard := range []string{"5 5 1", "5 5 1", "4 4 1", "0 0 0", "0 0 0"} {
		p.follows("%begin "+guard, "%end "+guard)
	}
	if l := p.m.Replies(); len(l) != 5 || l[2].Number != 4 {
		t.Errorf("the replies are %+v", l)
	}
}

// A block does not begin in another; one that was ended does not end again.
func TestM3BlocksDoNotNest(t *testing.T) {
	begun(t).follows("%begin 1 1 1").breaks("%begin 1 1 1")
	begun(t).follows("%begin 1 1 1").breaks("%begin 1 2 1")
	begun(t).follows("%begin 1 1 1", "%end 1 1 1").breaks("%end 1 1 1")
	begun(t).follows("%begin 1 1 1", "%error 1 1 1").breaks("%end 1 1 1")
	begun(t).follows("%begin 1 1 1", "%end 1 1 1").breaks("x")
}

func TestM3Session(t *testing.T) {
	p := begun(t)
	for _, c := range []struct {
		line string
		want int
	}{{"%session-changed $7 none", 7}, {"%session-changed $7 none", 7}, {"%session-changed $2 two", 2}, {"%session-changed $4611686018427387904 x", api.MaxNumber}, {"%session-changed $1 a b", 1}} {
		if p.follows(c.line); p.m.Session() != c.want {
			t.Errorf("behind %q the session is %d", c.line, p.m.Session())
		}
	}
	p.state(api.State{})
	p = greeted(t).follows("%session-changed $1 other")
	if p.m.Session() != 1 || p.m.State().Sessions[0].Name != "work" {
		t.Errorf("the session is %d, and its name %q", p.m.Session(), p.m.State().Sessions[0].Name)
	}
	if p.follows("%session-close $1"); p.m.Session() != 1 {
		t.Errorf("behind a close the session is %d", p.m.Session())
	}
}

func TestM3MessagesAndWatched(t *testing.T) {
	p := begun(t).follows("%message one", "%subscription-changed w $1 @2 3 %4 : x : y", "%message ", `%message a\012b`, "%subscription-changed v $1 @1 0 %1 : ", "%message one",
		"%subscription-changed w $1 @2 3 %4 : x : y")
	if got, want := p.m.Messages(), []string{"one", "", "a\nb", "one"}; !same(got, want) {
		t.Errorf("the messages are %q, and not %q", got, want)
	}
	w := api.Event{Kind: api.EvWatch, Name: "w", Session: 1, Window: 2, Index: 3, Pane: 4, Text: "x : y"}
	v := api.Event{Kind: api.EvWatch, Name: "v", Session: 1, Window: 1, Pane: 1}
	if got, want := p.m.Watched(), []api.Event{w, v, w}; !same(got, want) {
		t.Errorf("the subscription events are %+v, and not %+v", got, want)
	}
}

func TestM3Exit(t *testing.T) {
	for line, want := range map[string]string{"%exit": "", "%exit detached": "detached", `%exit a\012b c`: "a\nb c", "%exit  ": " ", "%exit " + strings.Repeat("e", api.MaxText): strings.Repeat("e", api.MaxText)} {
		p := greeted(t).follows(line)
		if reason, ended := p.m.Ended(); reason != want || !ended {
			t.Errorf("%.40q: %q, %v", line, reason, ended)
		}
		p.state(greetedState()).feed("%mess").rest("%mess")
		p.breaks("age")
		if reason, ended := p.m.Ended(); reason != want || !ended {
			t.Errorf("%.40q, and then broken: %q, %v", line, reason, ended)
		}
	}
	p := begun(t).follows("%exit").breaks("%exit detached")
	if reason, ended := p.m.Ended(); reason != "" || !ended {
		t.Errorf("the second exit: %q, %v", reason, ended)
	}
}
