package mirror

import "mullion/api"

// The parts of events: what a line has to say to a mirror. What is taken in one
// way has one type, whatever kinds of events it comes by.
type (
	begin   guard // a block begins
	body    string
	change  api.Event // the state differs
	added   place
	closed  api.Event // of a pane: delta is asked whether it may go
	pause   place
	resume  place
	visit   int // a session
	watched api.Event
	message string
	exit    string
)

// guard is what the first line of a block and its last one have in common.
type guard struct{ tick, number, flag int }

// end is the last line of a block.
type end struct {
	guard
	good bool
}

// place is where a pane's bytes stand.
type place struct{ pane, offset int }

// output is some of a pane's bytes.
type output struct {
	pane int
	text string
}

// partOf gives the part that an event has for a mirror; nil, if the line was no event's.
func partOf(e api.Event) any {
	switch e.Kind {
	case api.EvBegin:
		return begin(guardOf(e))
	case api.EvEnd, api.EvError:
		return end{guard: guardOf(e), good: e.Kind == api.EvEnd}
	case api.EvBody:
		return body(e.Text)
	case api.EvPaneAdd:
		return added(placeOf(e))
	case api.EvPaneClose:
		return closed(e)
	case api.EvOutput:
		return output{pane: e.Pane, text: e.Text}
	case api.EvPause:
		return pause(placeOf(e))
	case api.EvContinue:
		return resume(placeOf(e))
	case api.EvSession:
		return visit(e.Session)
	case api.EvWatch:
		return watched(e)
	case api.EvMessage:
		return message(e.Text)
	case api.EvExit:
		return exit(e.Text)
	case api.EvWindowAdd, api.EvWindowClose, api.EvWindowRenamed, api.EvLayout, api.EvPaneChanged,
		api.EvSessionAdd, api.EvSessionClose, api.EvSessionRenamed, api.EvLink, api.EvUnlink, api.EvSessionWindow:
		return change(e)
	}
	return nil
}

func guardOf(e api.Event) guard { return guard{tick: e.Tick, number: e.Number, flag: e.Flag} }

func placeOf(e api.Event) place { return place{pane: e.Pane, offset: e.Offset} }
