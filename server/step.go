package server

import (
	"mullion/api"
	"mullion/client"
	"mullion/exec"
)

// Step plays one entry; the bytes that were drained, if it is a drain.
func (s *Server) Step(e api.Entry) (string, api.Errno) {
	switch e.Kind {
	case api.InAttach:
		return "", s.attach(e.Client, e.N)
	case api.InDetach:
		return "", s.detach(e.Client)
	case api.InInput:
		return "", s.input(e.Client, e.Text)
	case api.InDrain:
		return s.drain(e.Client, e.N)
	case api.InOutput:
		return "", s.write(e.Pane, e.Text)
	case api.InDone:
		return "", s.closePane(e.Pane)
	case api.InTick:
		s.passTick()
		return "", api.OK
	}
	return "", api.ErrArg
}

func (s *Server) attach(number, limit int) api.Errno {
	if !isClientNumber(number) || s.client(number) != nil {
		return api.ErrClient
	}
	c, err := client.New(limit)
	if err != api.OK {
		return err
	}
	s.clients[number-1] = c
	now := s.store.State()
	c.Hello(s.tick, s.greeting(now))
	if len(now.Sessions) > 0 {
		c.Go(now.Sessions[0].Id, now.Sessions[0].Name)
	}
	return api.OK
}

func (s *Server) detach(number int) api.Errno {
	if s.client(number) == nil {
		return api.ErrClient
	}
	s.clients[number-1] = nil
	return api.OK
}

func (s *Server) input(number int, text string) api.Errno {
	c := s.client(number)
	switch {
	case c == nil:
		return api.ErrClient
	case len(text) > api.MaxChunk:
		return api.ErrLong
	}
	for _, line := range c.Feed(text) {
		if c.Closed() {
			break
		}
		s.answer(c, line)
	}
	return api.OK
}

// answer carries out a client's line. The client has its block ahead of what
// all clients are told of it, and all are told ahead of what it asks.
func (s *Server) answer(c *client.Client, line api.Line) {
	ahead := s.store.State()
	a := exec.Line(s.store, c.Session(), line)
	c.Block(s.tick, a.Err == api.OK, a.Body)
	s.tellDifference(ahead)
	for _, act := range a.Acts {
		s.do(act, c)
	}
	s.endClosedSessions()
}

// do does what a line asks of its client.
func (s *Server) do(act api.Act, c *client.Client) {
	switch act.Kind {
	case api.ActSession:
		if x, found := sessionOf(s.store.State(), act.Session); found {
			c.Go(x.Id, x.Name)
		}
	case api.ActDetach:
		c.Exit(reasonDetached)
	case api.ActKill:
		s.each(exit(reasonKilled).tell)
	case api.ActAge:
		c.SetAge(act.N)
	case api.ActPause:
		if _, end, found := s.store.Extent(act.Pane); found {
			c.Pause(act.Pane, end)
		}
	case api.ActContinue:
		if _, end, found := s.store.Extent(act.Pane); found {
			c.Continue(act.Pane, end)
		}
	case api.ActWatch:
		c.Watch(api.Watch{Name: act.Name, What: act.What, Format: act.Text})
	case api.ActUnwatch:
		c.Unwatch(act.Name)
	case api.ActMessage:
		c.Notify(api.Event{Kind: api.EvMessage, Text: act.Text})
	}
}

func (s *Server) drain(number, n int) (string, api.Errno) {
	c := s.client(number)
	switch {
	case c == nil:
		return "", api.ErrClient
	case n < 0:
		return "", api.ErrArg
	}
	text := c.Drain(n)
	if peer := c.Peer(number); peer.Closed && peer.Size == 0 {
		s.clients[number-1] = nil
	}
	return text, api.OK
}

func (s *Server) write(pane int, text string) api.Errno {
	if len(text) > api.MaxChunk {
		return api.ErrLong
	}
	begin, err := s.store.Write(pane, text)
	if err != api.OK {
		return err
	}
	s.each(output{pane: pane, tick: s.tick, offset: begin, text: text}.tell)
	return api.OK
}

func (s *Server) closePane(pane int) api.Errno {
	ahead := s.store.State()
	if err := s.store.ClosePane(pane); err != api.OK {
		return err
	}
	s.tellDifference(ahead)
	s.endClosedSessions()
	return api.OK
}

func (s *Server) passTick() {
	s.tick++
	s.each(moment{store: s.store, state: s.store.State(), tick: s.tick}.pass)
}

func isClientNumber(n int) bool { return n >= 1 && n <= api.MaxClients }

// client gives nil, if there is none of that number.
func (s *Server) client(number int) *client.Client {
	if !isClientNumber(number) {
		return nil
	}
	return s.clients[number-1]
}
