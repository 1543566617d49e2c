package house

import (
	"strconv"
	"strings"

	"mullion/api"
	"mullion/octal"
	"mullion/plan"
	"mullion/server"
	"mullion/wire"
)

// nothing stands where there is no session, index, pane or plan.
const nothing = "-"

// book is a text that is told line by line.
type book struct{ strings.Builder }

func (b *book) line(parts ...string) {
	for _, p := range parts {
		b.WriteString(p)
	}
	b.WriteString(lineEnd)
}

// form tells the line of a form all of whose numbers can be written.
func (b *book) form(f form) {
	parts := []string{f.word}
	for _, n := range f.numbers {
		parts = append(parts, blank, octal.PutNumber(*n))
	}
	if f.text != nil {
		parts = append(parts, blank, octal.Escape(*f.text))
	}
	b.line(parts...)
}

// server tells what a server is.
func (b *book) server(s *server.Server) {
	now := s.State()
	b.line("server, tick ", strconv.Itoa(s.Tick()))
	b.state(now)
	for _, pane := range panesOf(now) {
		start, end, _ := s.Extent(pane)
		b.line("  pane ", octal.PutId('%', pane), blank, stretch(start, end), " typed ", octal.Escape(s.Typed(pane)))
	}
}

func (b *book) state(s api.State) {
	for _, x := range s.Sessions {
		b.session(x)
	}
	for _, w := range s.Windows {
		b.window(w)
	}
}

func (b *book) session(x api.Session) {
	parts := []string{"  session ", octal.PutId('$', x.Id), blank, x.Name, " current ", indexOrNothing(x.Current), " last ", indexOrNothing(x.Last), " links"}
	for _, link := range x.Links {
		parts = append(parts, blank, strconv.Itoa(link.Index), ":", octal.PutId('@', link.Window))
	}
	b.line(parts...)
}

func (b *book) window(w api.Window) {
	how := "whole"
	if w.Zoom {
		how = "zoomed"
	}
	text, err := plan.Text(w.Cells)
	if err != api.OK {
		text = nothing
	}
	b.line("  window ", octal.PutId('@', w.Id), blank, w.Name, " active ", idOrNothing('%', w.Active), " last ", idOrNothing('%', w.Last), blank, how, blank, text)
}

// report tells what a mirror has found out.
func (b *book) report(r report) {
	b.line("  in ", idOrNothing('$', r.session))
	b.state(r.state)
	for _, f := range r.feeds {
		b.feed(f)
	}
	for _, reply := range r.replies {
		b.reply(reply)
	}
	for _, text := range r.messages {
		b.line("  message ", octal.Escape(text))
	}
	for _, e := range r.watched {
		text, _ := wire.Encode(e) // it came by its line
		b.line("  watch ", text)
	}
	b.end(r)
}

// end tells how far a mirror has come.
func (b *book) end(r report) {
	if r.rest != "" {
		b.line("  rest ", strconv.Itoa(len(r.rest)), " bytes")
	}
	if r.ended {
		b.line("  ended ", octal.Escape(r.reason))
	}
	if r.broken > 0 {
		b.line("  broken at ", strconv.Itoa(r.broken))
	}
}

func (b *book) feed(f api.Feed) {
	parts := []string{"  feed ", octal.PutId('%', f.Pane), blank, stretch(f.Start, f.End)}
	if f.Paused {
		parts = append(parts, " paused")
	}
	for _, gap := range f.Gaps {
		parts = append(parts, " gap ", stretch(gap.From, gap.To))
	}
	parts = append(parts, " bytes ", octal.Escape(f.Text))
	b.line(parts...)
}

func (b *book) reply(r api.Reply) {
	how := "bad"
	if r.Good {
		how = "good"
	}
	b.line("  reply ", strconv.Itoa(r.Number), " at ", strconv.Itoa(r.Tick), blank, how)
	for _, text := range r.Body {
		b.line("    | ", octal.Escape(text))
	}
}

// stretch tells from which offset to which.
func stretch(from, to int) string { return strconv.Itoa(from) + ".." + strconv.Itoa(to) }

func indexOrNothing(index int) string {
	if index == -1 {
		return nothing
	}
	return strconv.Itoa(index)
}

func idOrNothing(mark byte, id int) string {
	if id == 0 {
		return nothing
	}
	return octal.PutId(mark, id)
}
