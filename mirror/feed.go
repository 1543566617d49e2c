package mirror

import (
	"slices"

	"mullion/api"
	"mullion/delta"
)

// feed is what came of a pane's bytes.
type feed struct {
	start, end int
	bytes      []byte
	gaps       []api.Gap // they rise, and no two touch
	paused     bool
}

func (m *Mirror) addPane(at place) bool {
	if m.feeds[at.pane] != nil {
		return false
	}
	m.feeds[at.pane] = &feed{start: at.offset, end: at.offset}
	return true
}

// closePane leaves the state as it is: of a pane that may go there is nothing in it.
func (m *Mirror) closePane(e api.Event) bool {
	if m.feeds[e.Pane] == nil {
		return false
	}
	if _, err := delta.Apply(m.state, e); err != api.OK {
		return false
	}
	delete(m.feeds, e.Pane)
	return true
}

func (m *Mirror) hear(o output) bool {
	f := m.feeds[o.pane]
	if f == nil || f.paused {
		return false
	}
	f.bytes = append(f.bytes, o.text...)
	f.end += len(o.text)
	return true
}

// turn lets a pane pause or go on, at an offset.
func (m *Mirror) turn(at place, paused bool) bool {
	f := m.feeds[at.pane]
	if f == nil || f.paused == paused || at.offset < f.end {
		return false
	}
	f.paused = paused
	f.skip(at.offset)
	return true
}

// skip goes to an offset, and notes what was passed over. Where the last gap
// ends just here, nothing came behind it, and it goes on.
func (f *feed) skip(to int) {
	last := len(f.gaps) - 1
	switch {
	case to == f.end:
	case last >= 0 && f.gaps[last].To == f.end:
		f.gaps[last].To = to
	default:
		f.gaps = append(f.gaps, api.Gap{From: f.end, To: to})
	}
	f.end = to
}

func (f *feed) tell(pane int) api.Feed {
	return api.Feed{
		Pane:   pane,
		Start:  f.start,
		End:    f.end,
		Text:   string(f.bytes),
		Gaps:   slices.Clone(f.gaps),
		Paused: f.paused,
	}
}
