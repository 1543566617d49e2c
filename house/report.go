package house

import (
	"slices"

	"mullion/api"
	"mullion/delta"
	"mullion/mirror"
)

// report is what a mirror has found out, and whose it is.
type report struct {
	client   int
	entry    int // at which the client attached
	session  int
	state    api.State
	feeds    []api.Feed
	replies  []api.Reply
	messages []string
	watched  []api.Event
	rest     string
	reason   string
	ended    bool
	broken   int // the number of the line; 0: it is not
}

func newReport(client, entry int, m *mirror.Mirror) report {
	r := report{
		client:   client,
		entry:    entry,
		session:  m.Session(),
		state:    m.State(),
		feeds:    m.Feeds(),
		replies:  m.Replies(),
		messages: m.Messages(),
		watched:  m.Watched(),
		rest:     m.Rest(),
	}
	r.reason, r.ended = m.Ended()
	r.broken, _ = m.Broken()
	return r
}

// verdict holds what a mirror has found out against what is.
func (g *stage) verdict(r report) string {
	peer, there := g.peer(r)
	switch {
	case !there:
		return "gone"
	case peer.Size > 0:
		return "behind"
	case g.agrees(r, peer):
		return "agrees"
	}
	return "differs"
}

// peer gives the client that a mirror stands beside; false: it has gone, or its number is another's.
func (g *stage) peer(r report) (api.Peer, bool) {
	peers := g.server.Peers()
	at := slices.IndexFunc(peers, func(p api.Peer) bool { return p.Client == r.client })
	if at < 0 || g.seats[r.client].entry != r.entry {
		return api.Peer{}, false
	}
	return peers[at], true
}

func (g *stage) agrees(r report, peer api.Peer) bool {
	now := g.server.State()
	return r.broken == 0 &&
		isSameState(r.state, delta.Plain(now)) &&
		r.session == peer.Session &&
		slices.EqualFunc(r.feeds, panesOf(now), func(f api.Feed, pane int) bool {
			return f.Pane == pane && g.isTrue(f, slices.Contains(peer.Paused, pane))
		})
}

// isTrue tells whether a feed stands where its pane does, for a client for which that is paused or not.
func (g *stage) isTrue(f api.Feed, paused bool) bool {
	_, end, _ := g.server.Extent(f.Pane)
	if paused {
		return f.Paused && f.End <= end
	}
	return !f.Paused && f.End == end
}

func isSameState(a, b api.State) bool {
	return slices.EqualFunc(a.Sessions, b.Sessions, isSameSession) && slices.EqualFunc(a.Windows, b.Windows, isSameWindow)
}

func isSameSession(a, b api.Session) bool {
	return a.Id == b.Id && a.Name == b.Name && a.Current == b.Current && a.Last == b.Last && slices.Equal(a.Links, b.Links)
}

func isSameWindow(a, b api.Window) bool {
	return a.Id == b.Id && a.Name == b.Name && a.Active == b.Active && a.Last == b.Last && a.Zoom == b.Zoom && slices.Equal(a.Cells, b.Cells)
}

// panesOf gives the panes that stand in windows of a state, by rising id.
func panesOf(s api.State) []int {
	var panes []int
	for _, w := range s.Windows {
		for _, c := range w.Cells {
			if c.Kind == api.CellPane {
				panes = append(panes, c.Pane)
			}
		}
	}
	slices.Sort(panes)
	return panes
}
