package exec

import (
	"strings"

	"mullion/api"
	"mullion/octal"
	"mullion/verb"
)

func (j *job) refreshClient() {
	if value, ok := verb.Value(j.command, "A"); ok {
		j.pauseOrContinue(value)
	}
	if value, ok := verb.Value(j.command, "B"); ok {
		j.watchOrNot(value)
	}
	if value, ok := verb.Value(j.command, "f"); ok {
		j.setAge(value)
	}
}

// pauseOrContinue takes %N:pause or %N:continue.
func (j *job) pauseOrContinue(value string) {
	id, order, _ := strings.Cut(value, ":")
	pane, isId := octal.Id('%', id)
	_, _, there := j.st.Extent(pane)
	switch {
	case !isId || order != "pause" && order != "continue":
		j.note(api.ErrValue, value)
	case !there:
		j.note(api.ErrTarget, value)
	case order == "pause":
		j.ask(api.Act{Kind: api.ActPause, Pane: pane})
	default:
		j.ask(api.Act{Kind: api.ActContinue, Pane: pane})
	}
}

// watchOrNot takes NAME:WHAT:FORMAT, or a name alone.
func (j *job) watchOrNot(value string) {
	name, rest, more := strings.Cut(value, ":")
	what, text, whole := strings.Cut(rest, ":")
	switch {
	case !octal.IsWord(name), more && !whole, !isWatched(what):
		j.note(api.ErrValue, value)
	case more:
		j.ask(api.Act{Kind: api.ActWatch, Name: name, What: what, Text: text})
	default:
		j.ask(api.Act{Kind: api.ActUnwatch, Name: name})
	}
}

// isWatched tells whether a text says what may be watched.
func isWatched(what string) bool {
	switch what {
	case "", "%*", "@*":
		return true
	}
	_, pane := octal.Id('%', what)
	_, window := octal.Id('@', what)
	return pane || window
}

// setAge takes pause-after=N, or !pause-after.
func (j *job) setAge(value string) {
	if value == "!pause-after" {
		j.ask(api.Act{Kind: api.ActAge})
		return
	}
	number, ok := strings.CutPrefix(value, "pause-after=")
	age, isNumber := octal.Number(number)
	if !ok || !isNumber || age > api.MaxAge {
		j.note(api.ErrValue, value)
		return
	}
	j.ask(api.Act{Kind: api.ActAge, N: age})
}
