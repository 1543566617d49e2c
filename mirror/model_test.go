package mirror

import (
	"slices"
	"strings"

	"mullion/api"
	"mullion/delta"
	"mullion/wire"
)

// piece is a stretch of a pane's bytes: some that came, or, if it is a hole, some that did not.
type piece struct {
	from, to int
	text     string
	hole     bool
}

// stream is all that came of a pane, piece by piece.
type stream struct {
	pane, start int
	pieces      []piece
	paused      bool
}

func (s *stream) end() int {
	if len(s.pieces) == 0 {
		return s.start
	}
	return s.pieces[len(s.pieces)-1].to
}

func (s *stream) skip(to int) {
	if to > s.end() {
		s.pieces = append(s.pieces, piece{from: s.end(), to: to, hole: true})
	}
}

// told is the stream as a mirror is to tell it.
func (s *stream) told() api.Feed {
	f := api.Feed{Pane: s.pane, Start: s.start, End: s.end(), Paused: s.paused}
	for i, p := range s.pieces {
		f.Text += p.text
		switch {
		case p.hole && i > 0 && s.pieces[i-1].hole:
			f.Gaps[len(f.Gaps)-1].To = p.to
		case p.hole:
			f.Gaps = append(f.Gaps, api.Gap{From: p.from, To: p.to})
		}
	}
	return f
}

// page is what is known behind some lines.
type page struct {
	lines    int
	broken   int
	open     []api.Event // the events of a block that has begun
	replies  []api.Reply
	messages []string
	watched  []api.Event
	state    api.State
	session  int
	streams  []*stream
	exits    []string
}

func (p *page) stream(pane int) *stream {
	for _, s := range p.streams {
		if s.pane == pane {
			return s
		}
	}
	return nil
}

func (p *page) taken(e api.Event) bool {
	_, err := delta.Apply(p.state, e)
	return err == api.OK
}

// rule is what the chapter says of a kind of events: when one may come, and what it does.
type rule struct {
	may func(p *page, e api.Event) bool
	do  func(p *page, e api.Event)
}

func always(*page, api.Event) bool { return true }

var inside, outside = insideRules(), outsideRules()

// insideRules are the chapter's rules for lines in a block.
func insideRules() map[int]rule {
	ends := func(good bool) rule {
		return rule{
			may: func(p *page, e api.Event) bool {
				first := p.open[0]
				return first.Tick == e.Tick && first.Number == e.Number && first.Flag == e.Flag
			},
			do: func(p *page, e api.Event) {
				r := api.Reply{Tick: e.Tick, Number: e.Number, Flag: e.Flag, Good: good}
				for _, line := range p.open[1:] {
					r.Body = append(r.Body, line.Text)
				}
				p.replies, p.open = append(p.replies, r), nil
			},
		}
	}
	return map[int]rule{
		api.EvBody:  {always, func(p *page, e api.Event) { p.open = append(p.open, e) }},
		api.EvEnd:   ends(true),
		api.EvError: ends(false),
	}
}

// outsideRules are the chapter's rules for lines in no block, if it has not ended.
func outsideRules() map[int]rule {
	rules := map[int]rule{
		api.EvBegin: {always, func(p *page, e api.Event) { p.open = []api.Event{e} }},
		api.EvPaneAdd: {
			func(p *page, e api.Event) bool { return p.stream(e.Pane) == nil },
			func(p *page, e api.Event) { p.streams = append(p.streams, &stream{pane: e.Pane, start: e.Offset}) },
		},
		api.EvPaneClose: {
			func(p *page, e api.Event) bool { return p.stream(e.Pane) != nil && p.taken(e) },
			func(p *page, e api.Event) {
				p.streams = slices.DeleteFunc(p.streams, func(s *stream) bool { return s.pane == e.Pane })
			},
		},
		api.EvOutput: {
			func(p *page, e api.Event) bool { return p.stream(e.Pane) != nil && !p.stream(e.Pane).paused },
			func(p *page, e api.Event) {
				s := p.stream(e.Pane)
				s.pieces = append(s.pieces, piece{from: s.end(), to: s.end() + len(e.Text), text: e.Text})
			},
		},
		api.EvPause:    turnRule(true),
		api.EvContinue: turnRule(false),
		api.EvSession:  {always, func(p *page, e api.Event) { p.session = e.Session }},
		api.EvWatch:    {always, func(p *page, e api.Event) { p.watched = append(p.watched, e) }},
		api.EvMessage:  {always, func(p *page, e api.Event) { p.messages = append(p.messages, e.Text) }},
		api.EvExit:     {always, func(p *page, e api.Event) { p.exits = append(p.exits, e.Text) }},
	}
	for _, kind := range stateKinds {
		rules[kind] = rule{(*page).taken, func(p *page, e api.Event) {
			next, _ := delta.Apply(p.state, e)
			p.state = delta.Plain(next)
		}}
	}
	return rules
}

// stateKinds are the kinds of events that change the state.
var stateKinds = []int{
	api.EvWindowAdd, api.EvWindowClose, api.EvWindowRenamed, api.EvLayout, api.EvPaneChanged, api.EvSessionAdd,
	api.EvSessionClose, api.EvSessionRenamed, api.EvLink, api.EvUnlink, api.EvSessionWindow,
}

func turnRule(paused bool) rule {
	return rule{
		func(p *page, e api.Event) bool {
			s := p.stream(e.Pane)
			return s != nil && s.paused != paused && e.Offset >= s.end()
		},
		func(p *page, e api.Event) {
			s := p.stream(e.Pane)
			s.paused = paused
			s.skip(e.Offset)
		},
	}
}

// rule is the one by which an event may come here; false: it may not.
func (p *page) rule(e api.Event) (rule, bool) {
	rules := outside
	switch {
	case len(p.open) > 0:
		rules = inside
	case len(p.exits) > 0:
		rules = nil
	}
	r, named := rules[e.Kind]
	return r, named && r.may(p, e)
}

func (p *page) turn(line string) {
	p.lines++
	e := wire.Decode(line)
	if r, may := p.rule(e); may {
		r.do(p, e)
	} else {
		p.broken = p.lines
	}
}

// book is the tests' own mirror: it never lets a byte go of what it was fed, and reads all of it for every question.
type book struct{ all string }

// page is where its lines lead to, and what is behind the last one.
func (b book) page() (*page, string) {
	p := &page{}
	lines := strings.Split(b.all, "\n")
	last := len(lines) - 1
	for _, line := range lines[:last] {
		if p.broken == 0 {
			p.turn(line)
		}
	}
	return p, lines[last]
}

// read gives what a mirror that was fed all of it is to answer.
func (b book) read() answers {
	p, rest := b.page()
	a := answers{
		state: p.state, session: p.session, replies: p.replies, messages: p.messages, watched: p.watched,
		ended: len(p.exits) > 0, reason: strings.Join(p.exits, ""), number: p.broken, broken: p.broken != 0,
	}
	if p.broken == 0 {
		a.rest = rest
	}
	for _, s := range p.streams {
		a.feeds = append(a.feeds, s.told())
	}
	slices.SortFunc(a.feeds, func(x, y api.Feed) int { return x.Pane - y.Pane })
	return a.plain()
}
