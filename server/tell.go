package server

import (
	"slices"

	"mullion/api"
	"mullion/client"
	"mullion/delta"
)

// Why a client is told its last line.
const (
	reasonDetached = "detached"
	reasonKilled   = "server exited"
	reasonClosed   = "session closed"
)

// each hands all clients to a deed, one after the other, by rising number.
func (s *Server) each(deed func(number int, c *client.Client)) {
	for i, c := range s.clients {
		if c != nil {
			deed(i+1, c)
		}
	}
}

// news are events that all clients are told.
type news []api.Event

func (n news) tell(_ int, c *client.Client) { c.Notify(n...) }

// exit is the reason of a last line.
type exit string

func (e exit) tell(_ int, c *client.Client) { c.Exit(string(e)) }

// output is what a pane's program has written, where and when.
type output struct {
	pane, tick, offset int
	text               string
}

func (o output) tell(_ int, c *client.Client) { c.Output(o.pane, o.tick, o.offset, o.text) }

// peers gathers what can be seen of the clients.
type peers []api.Peer

func (l *peers) add(number int, c *client.Client) { *l = append(*l, c.Peer(number)) }

// rest is the state that is left when sessions may have gone.
type rest api.State

// end ends a client that stands in a session which has gone.
func (r rest) end(_ int, c *client.Client) {
	if _, found := sessionOf(api.State(r), c.Session()); !found && c.Session() != 0 {
		c.Exit(reasonClosed)
	}
}

func (s *Server) endClosedSessions() { s.each(rest(s.store.State()).end) }

// tellDifference tells all clients what has changed since the state ahead.
func (s *Server) tellDifference(ahead api.State) {
	s.each(news(difference(ahead, s.store.State())).tell)
}

// difference can't fail: both states are a store's, and so they are valid.
func difference(ahead, behind api.State) []api.Event {
	events, _ := delta.Diff(ahead, behind)
	return events
}

// greeting is the whole state for a client that is new. It has not had the
// bytes of the panes that are there: these begin for it where they end now.
func (s *Server) greeting(now api.State) []api.Event {
	events := difference(api.State{}, now)
	for i := range events {
		if events[i].Kind == api.EvPaneAdd {
			_, events[i].Offset, _ = s.store.Extent(events[i].Pane)
		}
	}
	return events
}

func sessionOf(s api.State, id int) (api.Session, bool) {
	at := slices.IndexFunc(s.Sessions, func(x api.Session) bool { return x.Id == id })
	if at < 0 {
		return api.Session{}, false
	}
	return s.Sessions[at], true
}
