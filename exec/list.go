package exec

import (
	"strings"

	"mullion/api"
	"mullion/layout"
	"mullion/verb"
)

// What is told where no format is given.
const (
	sessionLine = "#{session_name}: #{session_windows} windows"
	windowLine  = "#{window_index}: #{window_name}#{window_flags} (#{window_panes} panes) [#{window_width}x#{window_height}]"
	paneLine    = "#{pane_index}: [#{pane_width}x#{pane_height}] #{pane_id}#{?pane_active, (active),}"
	messageLine = "[#{session_name}] #{window_index}:#{window_name}, pane #{pane_index}"
)

// list answers a line for each place.
func (j *job) list(places []api.Place, line string) {
	f := j.valueOr("F", line)
	for _, p := range places {
		j.say(j.expand(f, p))
		if j.failed() {
			return
		}
	}
}

// linksOf are the places of a session's links, each with the active pane.
func (j *job) linksOf(x api.Session) []api.Place {
	var places []api.Place
	for _, l := range x.Links {
		places = append(places, api.Place{Session: x.Id, Index: l.Index, Window: l.Window, Pane: j.window(l.Window).Active})
	}
	return places
}

func (j *job) allLinks() []api.Place {
	var places []api.Place
	for _, x := range j.state.Sessions {
		places = append(places, j.linksOf(x)...)
	}
	return places
}

func (j *job) listSessions() {
	var places []api.Place
	for _, p := range j.allLinks() {
		if p.Index == j.session(p.Session).Current {
			places = append(places, p)
		}
	}
	j.list(places, sessionLine)
}

func (j *job) listWindows() {
	if j.has("a") {
		j.list(j.allLinks(), "#{session_name}:"+windowLine)
		return
	}
	p := j.find("t", api.MeanSession)
	j.list(j.linksOf(j.session(p.Session)), windowLine)
}

func (j *job) listPanes() {
	var links []api.Place
	switch {
	case j.has("a"):
		links = j.allLinks()
	case j.has("s"):
		links = j.linksOf(j.session(j.find("t", api.MeanWindow).Session))
	default:
		links = []api.Place{j.find("t", api.MeanWindow)}
	}
	var places []api.Place
	for _, p := range links {
		for _, pane := range layout.Panes(j.window(p.Window).Cells) {
			p.Pane = pane
			places = append(places, p)
		}
	}
	j.list(places, paneLine)
}

// listCommands goes by the commands' numbers, which rise with their names.
func (j *job) listCommands() {
	for i := range verb.List() {
		j.say(verb.Usage(i + 1))
	}
}

func (j *job) displayMessage() {
	p := j.find("t", api.MeanPane)
	text := j.expand(j.wordOr(0, messageLine), p)
	if j.has("p") {
		j.say(text)
	} else {
		j.ask(api.Act{Kind: api.ActMessage, Text: text})
	}
}

func (j *job) capturePane() {
	p := j.find("t", api.MeanPane)
	n := j.number("S", 0)
	if j.failed() {
		return
	}
	// The pane is there, so neither call can fail.
	text := ""
	if j.has("S") {
		text, _ = j.st.Lines(p.Pane, n)
	} else {
		start, end, _ := j.st.Extent(p.Pane)
		text, _, _ = j.st.Read(p.Pane, start, end-start)
	}
	// A line end at the very end leaves no text, and so no line, behind it.
	for text != "" {
		line, rest, _ := strings.Cut(text, "\n")
		j.say(line)
		text = rest
	}
}
