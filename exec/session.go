package exec

import (
	"slices"

	"mullion/api"
)

func (j *job) newSession() {
	w, h := j.number("x", 0), j.number("y", 0)
	if j.failed() {
		return
	}
	p, err := j.st.NewSession(j.value("s"), j.value("n"), w, h)
	if err != api.OK {
		j.noteCommand(err)
		return
	}
	j.tell(p)
	if !j.has("d") {
		j.goTo(p.Session)
	}
}

func (j *job) killSession() {
	p := j.find("t", api.MeanSession)
	if j.failed() {
		return
	}
	others := j.has("a")
	for _, x := range j.state.Sessions {
		if (x.Id != p.Session) == others {
			j.noteCommand(j.st.CloseSession(x.Id))
		}
	}
}

func (j *job) renameSession() {
	p := j.find("t", api.MeanSession)
	if !j.failed() {
		j.noteCommand(j.st.RenameSession(p.Session, j.wordOr(0, "")))
	}
}

func (j *job) hasSession() { j.find("t", api.MeanSession) }

func (j *job) switchClient() {
	var session int
	switch {
	case j.has("n"):
		session = j.sessionBeside(1)
	case j.has("p"):
		session = j.sessionBeside(-1)
	default:
		session = j.find("t", api.MeanSession).Session
	}
	if !j.failed() && session != j.here {
		j.goTo(session)
	}
}

// sessionBeside is the session one step further on than the client's, or back,
// round from the end to the beginning.
func (j *job) sessionBeside(step int) int {
	all := j.state.Sessions
	at := slices.IndexFunc(all, func(x api.Session) bool { return x.Id == j.here })
	if at < 0 {
		j.note(api.ErrNowhere, "")
		return 0
	}
	return all[(at+step+len(all))%len(all)].Id
}

func (j *job) detachClient() { j.ask(api.Act{Kind: api.ActDetach}) }

func (j *job) killServer() {
	for _, x := range j.state.Sessions {
		j.noteCommand(j.st.CloseSession(x.Id))
	}
	j.ask(api.Act{Kind: api.ActKill})
}
