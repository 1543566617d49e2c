package exec

import (
	"slices"
	"strings"

	"mullion/api"
	"mullion/format"
	"mullion/layout"
	"mullion/octal"
	"mullion/store"
	"mullion/target"
	"mullion/verb"
)

// A job is one command that is being done for a client in the session here.
// It looks at flags and words in the order in which their errors count, for
// the first error stays; and it asks whether there is one ahead of changing
// the store.
type job struct {
	st      *store.Store
	here    int
	command api.Command
	state   api.State    // ahead of the command
	kept    *store.Store // ahead of the command, if it may have to be undone
	answer  api.Answer
}

// keep is for a command that makes several changes, of which a later one may
// fail. A single one needs no undoing: a call that the store refuses has
// changed nothing.
func (j *job) keep() { j.kept = j.st.Clone() }

// undo leaves of a command that has failed nothing but its error.
func (j *job) undo() api.Answer {
	if j.kept != nil {
		*j.st = *j.kept
	}
	return api.Answer{Here: j.here, Err: j.answer.Err, About: j.answer.About}
}

func (j *job) failed() bool { return j.answer.Err != api.OK }

// note keeps an error, unless there is one already or it is none.
func (j *job) note(err api.Errno, about string) {
	if err != api.OK && !j.failed() {
		j.answer.Err, j.answer.About = err, about
	}
}

// noteCommand keeps an error that is about the command: all of the store's are.
func (j *job) noteCommand(err api.Errno) { j.note(err, verb.Name(j.command.Verb)) }

// say answers a line.
func (j *job) say(line string) { j.answer.Body = append(j.answer.Body, line) }

// ask asks something of the client.
func (j *job) ask(act api.Act) { j.answer.Acts = append(j.answer.Acts, act) }

// goTo sends the client to a session.
func (j *job) goTo(session int) {
	j.ask(api.Act{Kind: api.ActSession, Session: session})
	j.answer.Here = session
}

func (j *job) has(letter string) bool {
	_, ok := verb.Value(j.command, letter)
	return ok
}

// value is the empty text for a flag that is not given.
func (j *job) value(letter string) string { return j.valueOr(letter, "") }

func (j *job) valueOr(letter, other string) string {
	if value, ok := verb.Value(j.command, letter); ok {
		return value
	}
	return other
}

// wordOr is the command's word at that place, or the other one, if it has fewer.
func (j *job) wordOr(at int, other string) string {
	if at < len(j.command.Words) {
		return strings.Clone(j.command.Words[at])
	}
	return other
}

// number is a flag's value as a number, or the other one, if it is not given.
func (j *job) number(letter string, other int) int {
	if value, ok := verb.Value(j.command, letter); ok {
		return j.numberIn(value)
	}
	return other
}

// wordNumber is a word as a number, or the other one, if it is not given.
func (j *job) wordNumber(at, other int) int {
	if at < len(j.command.Words) {
		return j.numberIn(j.wordOr(at, ""))
	}
	return other
}

func (j *job) numberIn(text string) int {
	n, ok := octal.Number(text)
	if !ok {
		j.note(api.ErrValue, text)
	}
	return n
}

// find is what a flag's target means; with an error the place is none.
func (j *job) find(letter string, mean int) api.Place {
	text := j.value(letter)
	p, err := target.Find(j.state, j.here, text, mean)
	j.note(err, text)
	return p
}

// expand is what a format says at a place.
func (j *job) expand(f string, p api.Place) string {
	text, err := format.Expand(f, varsAt(j.st, j.state, p))
	j.note(err, f)
	return text
}

func (j *job) session(id int) api.Session { return sessionOf(j.state, id) }

func (j *job) window(id int) api.Window { return windowOf(j.state, id) }

// tell answers, if that is asked for, where something new stands.
func (j *job) tell(p api.Place) {
	if !j.has("P") {
		return
	}
	now := j.st.State()
	name := sessionOf(now, p.Session).Name
	at := slices.Index(layout.Panes(windowOf(now, p.Window).Cells), p.Pane)
	j.say(name + ":" + octal.PutNumber(p.Index) + "." + octal.PutNumber(at))
}
