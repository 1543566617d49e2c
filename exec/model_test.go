package exec

import (
	"fmt"
	"maps"
	"regexp"
	"slices"
	"strings"

	"mullion/api"
	"mullion/format"
	"mullion/layout"
	"mullion/lex"
	"mullion/octal"
	"mullion/plan"
	"mullion/store"
	"mullion/target"
	"mullion/verb"
)

// The chapter's table once more: each row is read from left to right over a clone of the store, and the first error
// leaves it by a panic, with the clone. What comes of a command that is done is the clone.

// A trial is one command that is tried.
type trial struct {
	st    *store.Store
	was   api.State
	here  int
	name  string
	flags map[string]string
	words []string
	a     api.Answer
}

// refusal is what a trial is left with.
type refusal struct {
	err   api.Errno
	about string
}

func (m *trial) leave(err api.Errno, about string) { panic(refusal{err, about}) }

// expectDo is what Do should answer, and the store behind it.
func expectDo(st *store.Store, here int, c api.Command) (a api.Answer, behind *store.Store) {
	defer func() {
		if r := recover(); r != nil {
			why := r.(refusal)
			a, behind = api.Answer{Here: here, Err: why.err, About: why.about}, st.Clone()
		}
	}()
	m := &trial{st: st.Clone(), was: st.State(), here: here, name: verb.Name(c.Verb), flags: map[string]string{}, words: c.Words}
	if _, err := verb.Words(c); err != api.OK {
		m.leave(api.ErrVerb, "")
	}
	for _, f := range c.Flags {
		m.flags[f.Letter] = f.Value
	}
	m.a.Here = here
	rows()[m.name](m)
	return m.a, m.st
}

// expectLine is what Line should answer, and the store behind it.
func expectLine(st *store.Store, here int, line api.Line) (api.Answer, *store.Store) {
	behind := st.Clone()
	a, commands := expectRead(here, line)
	for _, c := range commands {
		var one api.Answer
		one, behind = expectDo(behind, a.Here, c)
		a.Body, a.Acts, a.Here, a.Err, a.About = append(a.Body, one.Body...), append(a.Acts, one.Acts...), one.Here, one.Err, one.About
		if a.Err != api.OK {
			break
		}
	}
	if a.Err != api.OK {
		a.Body = append(a.Body, expectMessage(a.Err, a.About))
	}
	text := ""
	for _, l := range a.Body {
		text += octal.EscapeBody(l) + "\n"
	}
	if len(text) > 8192 {
		a.Body, a.Err, a.About = []string{"too long: answer"}, api.ErrLong, "answer"
	}
	return a, behind
}

func expectRead(here int, line api.Line) (api.Answer, []api.Command) {
	lists, at, err := lex.Commands(line.Text)
	switch {
	case line.Long:
		return api.Answer{Here: here, Err: api.ErrLong, About: "line"}, nil
	case err == api.ErrQuote:
		return api.Answer{Here: here, Err: err, About: fmt.Sprint("byte ", at)}, nil
	case err != api.OK:
		return api.Answer{Here: here, Err: err, About: "line"}, nil
	}
	var commands []api.Command
	for _, words := range lists {
		c, about, err := verb.Read(words)
		if err != api.OK {
			return api.Answer{Here: here, Err: err, About: about}, nil
		}
		commands = append(commands, c)
	}
	return api.Answer{Here: here}, commands
}

func expectMessage(err api.Errno, about string) string {
	text, ok := textsByNumber()[fmt.Sprint(int(err))]
	switch {
	case ok:
	case err >= 0 && err <= 1<<62:
		text = fmt.Sprint("error ", int(err))
	default:
		text = "error"
	}
	if about == "" {
		return text
	}
	return text + ": " + about
}

// expectVars writes the table of names as a map, and lays it down by rising name.
func expectVars(st *store.Store, p api.Place) []api.Var { return varsIn(st, st.State(), p) }

func varsIn(st *store.Store, s api.State, p api.Place) []api.Var {
	for _, x := range s.Sessions {
		for _, l := range x.Links {
			if x.Id != p.Session || l != (api.Link{Index: p.Index, Window: p.Window}) {
				continue
			}
			for _, w := range s.Windows {
				if order := slices.Index(layout.Panes(w.Cells), p.Pane); w.Id == p.Window && order >= 0 {
					return sortedVars(values(st, x, l.Index, w, order, p.Pane))
				}
			}
		}
	}
	return nil
}

func sortedVars(all map[string]any) []api.Var {
	var vars []api.Var
	for _, name := range slices.Sorted(maps.Keys(all)) {
		value := fmt.Sprint(all[name])
		if yes, ok := all[name].(bool); ok {
			value = map[bool]string{true: "1", false: "0"}[yes]
		}
		vars = append(vars, api.Var{Name: name, Value: value})
	}
	return vars
}

func values(st *store.Store, x api.Session, index int, w api.Window, order, pane int) map[string]any {
	_, end, _ := st.Extent(pane)
	var cell api.Cell
	for _, c := range w.Cells {
		if c.Pane == pane {
			cell = c
		}
	}
	whole, _ := plan.Text(w.Cells)
	seen, flags := whole, ""
	if index == x.Current {
		flags += "*"
	}
	if index == x.Last {
		flags += "-"
	}
	if w.Zoom {
		flags += "Z"
		seen, _ = plan.Text([]api.Cell{{Kind: api.CellPane, W: w.Cells[0].W, H: w.Cells[0].H, Pane: w.Active}})
	}
	return map[string]any{
		"pane_active": pane == w.Active, "pane_bytes": end, "pane_index": order, "pane_id": fmt.Sprint("%", pane),
		"pane_height": cell.H, "pane_left": cell.X, "pane_top": cell.Y, "pane_width": cell.W,
		"session_id": fmt.Sprint("$", x.Id), "session_name": x.Name, "session_windows": len(x.Links),
		"window_active": index == x.Current, "window_flags": flags, "window_zoomed_flag": w.Zoom,
		"window_height": w.Cells[0].H, "window_width": w.Cells[0].W, "window_id": fmt.Sprint("@", w.Id), "window_index": index,
		"window_layout": whole, "window_visible_layout": seen, "window_name": w.Name, "window_panes": len(layout.Panes(w.Cells)),
	}
}

func (m *trial) given(letter string) bool {
	_, ok := m.flags[letter]
	return ok
}

// meant finds the target of a flag, of any kind.
func (m *trial) meant(letter string, mean int) api.Place {
	p, err := target.Find(m.was, m.here, m.flags[letter], mean)
	if err != api.OK {
		m.leave(err, m.flags[letter])
	}
	return p
}

func (m *trial) session(letter string) api.Session {
	id := m.meant(letter, api.MeanSession).Session
	return m.was.Sessions[slices.IndexFunc(m.was.Sessions, func(x api.Session) bool { return x.Id == id })]
}

func (m *trial) window(letter string) api.Place { return m.meant(letter, api.MeanWindow) }
func (m *trial) pane(letter string) api.Place   { return m.meant(letter, api.MeanPane) }
func (m *trial) index(letter string) api.Place  { return m.meant(letter, api.MeanIndex) }

// shown is the window at a place, in the state ahead.
func (m *trial) shown(id int) api.Window {
	return m.was.Windows[slices.IndexFunc(m.was.Windows, func(w api.Window) bool { return w.Id == id })]
}

func (m *trial) toNumber(text string) int {
	n, ok := octal.Number(text)
	if !ok {
		m.leave(api.ErrValue, text)
	}
	return n
}

// number is that of a flag, or of the first word.
func (m *trial) number(letter string, or int) int {
	text, ok := m.flags[letter]
	if letter == "word" && len(m.words) > 0 {
		text, ok = m.words[0], true
	}
	if !ok {
		return or
	}
	return m.toNumber(text)
}

func (m *trial) store(err api.Errno) {
	if err != api.OK {
		m.leave(err, m.name)
	}
}

func (m *trial) says(format string, args ...any) {
	m.a.Body = append(m.a.Body, fmt.Sprintf(format, args...))
}

func (m *trial) asks(act api.Act) { m.a.Acts = append(m.a.Acts, act) }

func (m *trial) goes(session int) {
	m.asks(api.Act{Kind: api.ActSession, Session: session})
	m.a.Here = session
}

// says with -P where the pane of a place stands now.
func (m *trial) prints(p api.Place) {
	if !m.given("P") {
		return
	}
	for _, x := range m.st.State().Sessions {
		for _, w := range m.st.State().Windows {
			if x.Id == p.Session && w.Id == p.Window {
				m.says("%s:%d.%d", x.Name, p.Index, slices.Index(layout.Panes(w.Cells), p.Pane))
			}
		}
	}
}

func (m *trial) expand(f string, p api.Place) string {
	text, err := format.Expand(f, varsIn(m.st, m.was, p))
	if err != api.OK {
		m.leave(err, f)
	}
	return text
}

// each tells a line of a format for those places, of all that there are, that a test lets through.
func (m *trial) each(or string, wanted func(p api.Place, x api.Session, w api.Window) bool) {
	f, ok := m.flags["F"]
	if !ok {
		f = or
	}
	for _, x := range m.was.Sessions {
		for _, l := range x.Links {
			w := m.shown(l.Window)
			for _, pane := range layout.Panes(w.Cells) {
				if p := place(x.Id, l.Index, l.Window, pane); wanted(p, x, w) {
					m.says("%s", m.expand(f, p))
				}
			}
		}
	}
}

func ask(kind int) func(*trial) { return func(m *trial) { m.asks(api.Act{Kind: kind}) } }

func rows() map[string]func(*trial) {
	all := map[string]func(*trial){
		"detach-client": ask(api.ActDetach),
		"kill-server": func(m *trial) {
			for _, x := range m.was.Sessions {
				m.store(m.st.CloseSession(x.Id))
			}
			ask(api.ActKill)(m)
		},
		"list-commands": func(m *trial) {
			for _, name := range slices.Sorted(slices.Values(verb.List())) {
				n, _ := verb.Find(name)
				m.says("%s", verb.Usage(n))
			}
		},
		"send-keys": func(m *trial) {
			p, text := m.pane("t"), ""
			for _, word := range m.words {
				if !m.given("l") {
					word = asKey(word)
				}
				text += word
			}
			m.store(m.st.Type(p.Pane, text))
		},
		"capture-pane": func(m *trial) {
			p := m.pane("t")
			from, to, _ := m.st.Extent(p.Pane)
			text, _, _ := m.st.Read(p.Pane, from, to)
			if n := m.number("S", -1); n >= 0 {
				text, _ = m.st.Lines(p.Pane, n)
			}
			for _, line := range regexp.MustCompile(`(?s)[^\n]*\n|[^\n]+$`).FindAllString(text, -1) {
				m.says("%s", strings.TrimSuffix(line, "\n"))
			}
		},
		"display-message": func(m *trial) {
			p := m.pane("t")
			text := m.expand(append(slices.Clone(m.words), "[#{session_name}] #{window_index}:#{window_name}, pane #{pane_index}")[0], p)
			if m.given("p") {
				m.says("%s", text)
			} else {
				m.asks(api.Act{Kind: api.ActMessage, Text: text})
			}
		},
		"refresh-client": (*trial).refresh,
	}
	maps.Copy(all, sessionRows())
	maps.Copy(all, windowRows())
	maps.Copy(all, paneRows())
	return all
}

func asKey(word string) string {
	keys := map[string]string{"Enter": "\r", "Space": " ", "Tab": "\t", "Escape": "\x1b", "BSpace": "\x7f"}
	for b := 1; b <= 26; b++ {
		keys["C-"+string(rune(96+b))] = string(rune(b))
	}
	if key, ok := keys[word]; ok {
		return key
	}
	return word
}

func sessionRows() map[string]func(*trial) {
	return map[string]func(*trial){
		"new-session": func(m *trial) {
			x, y := m.number("x", 0), 0
			y = m.number("y", 0)
			p, err := m.st.NewSession(m.flags["s"], m.flags["n"], x, y)
			m.store(err)
			m.prints(p)
			if !m.given("d") {
				m.goes(p.Session)
			}
		},
		"kill-session": func(m *trial) {
			one := m.session("t").Id
			for _, x := range m.was.Sessions {
				if m.given("a") && x.Id != one || !m.given("a") && x.Id == one {
					m.store(m.st.CloseSession(x.Id))
				}
			}
		},
		"rename-session": func(m *trial) { m.store(m.st.RenameSession(m.session("t").Id, m.words[0])) },
		"has-session":    func(m *trial) { m.session("t") },
		"list-sessions": func(m *trial) {
			m.each("#{session_name}: #{session_windows} windows", func(p api.Place, x api.Session, w api.Window) bool {
				return p.Index == x.Current && p.Pane == w.Active
			})
		},
		"switch-client": func(m *trial) {
			to := 0
			if m.given("n") || m.given("p") {
				to = m.neighbour(m.given("n"))
			} else {
				to = m.session("t").Id
			}
			if to != m.here {
				m.goes(to)
			}
		},
	}
}

// neighbour is the session with the next greater id than the client's, or with the next lower one.
func (m *trial) neighbour(greater bool) int {
	ids := []int{}
	for _, x := range m.was.Sessions {
		ids = append(ids, x.Id)
	}
	if !slices.Contains(ids, m.here) {
		m.leave(api.ErrNowhere, "")
	}
	if !greater {
		slices.Reverse(ids)
	}
	ids = append(ids, ids[0])
	return ids[slices.Index(ids, m.here)+1]
}

func windowRows() map[string]func(*trial) {
	const line = "#{window_index}: #{window_name}#{window_flags} (#{window_panes} panes) [#{window_width}x#{window_height}]"
	return map[string]func(*trial){
		"new-window": func(m *trial) {
			at := m.index("t")
			p, err := m.st.NewWindow(at.Session, at.Index, m.flags["n"], !m.given("d"))
			m.store(err)
			m.prints(p)
		},
		"kill-window": func(m *trial) {
			p := m.window("t")
			if !m.given("a") {
				m.store(m.st.CloseWindow(p.Window))
				return
			}
			others := map[int]bool{}
			for _, x := range m.was.Sessions {
				for _, l := range x.Links {
					others[l.Window] = others[l.Window] || x.Id == p.Session && l.Window != p.Window
				}
			}
			for _, id := range slices.Sorted(maps.Keys(others)) {
				if others[id] {
					m.store(m.st.CloseWindow(id))
				}
			}
		},
		"rename-window": func(m *trial) { m.store(m.st.RenameWindow(m.window("t").Window, m.words[0])) },
		"select-window": func(m *trial) {
			for _, x := range [][2]string{{"l", "!"}, {"n", "+"}, {"p", "-"}} {
				if m.given(x[0]) {
					p, err := target.Find(m.was, m.session("t").Id, ":"+x[1], api.MeanWindow)
					if err != api.OK {
						m.leave(err, x[1])
					}
					m.store(m.st.Choose(p.Session, p.Index))
					return
				}
			}
			p := m.window("t")
			m.store(m.st.Choose(p.Session, p.Index))
		},
		"link-window": func(m *trial) {
			from := m.window("s")
			to := m.index("t")
			_, err := m.st.Link(to.Session, to.Index, from.Window, !m.given("d"))
			m.store(err)
		},
		"unlink-window": func(m *trial) {
			p, links := m.window("t"), 0
			for _, x := range m.was.Sessions {
				for _, l := range x.Links {
					if l.Window == p.Window {
						links++
					}
				}
			}
			if links < 2 && !m.given("k") {
				m.leave(api.ErrOnly, "unlink-window")
			}
			m.store(m.st.Unlink(p.Session, p.Index))
		},
		"move-window": func(m *trial) {
			from := m.window("s")
			to := m.index("t")
			index, err := m.st.Move(from.Session, from.Index, to.Session, to.Index)
			m.store(err)
			if !m.given("d") {
				m.store(m.st.Choose(to.Session, index))
			}
		},
		"swap-window": func(m *trial) {
			a := m.window("s")
			b := m.window("t")
			m.store(m.st.Exchange(a.Session, a.Index, b.Session, b.Index))
		},
		"list-windows": func(m *trial) {
			if m.given("a") {
				m.each("#{session_name}:"+line, func(p api.Place, _ api.Session, w api.Window) bool { return p.Pane == w.Active })
				return
			}
			of := m.session("t").Id
			m.each(line, func(p api.Place, x api.Session, w api.Window) bool { return x.Id == of && p.Pane == w.Active })
		},
		"resize-window": func(m *trial) {
			p := m.window("t")
			x := m.number("x", m.shown(p.Window).Cells[0].W)
			y := m.number("y", m.shown(p.Window).Cells[0].H)
			m.store(m.st.Resize(p.Window, x, y))
		},
		"select-layout": func(m *trial) {
			p := m.window("t")
			how := slices.Index([]string{"", "even-horizontal", "even-vertical", "main-horizontal", "main-vertical", "tiled"}, m.words[0])
			if how > 0 {
				size := 0
				if len(m.words) == 2 {
					size = m.toNumber(m.words[1])
				}
				m.store(m.st.Arrange(p.Window, how, size))
				return
			}
			if len(m.words) == 2 {
				m.leave(api.ErrCount, "select-layout")
			}
			cells, err := plan.Parse(m.words[0])
			if err != api.OK {
				m.leave(err, m.words[0])
			}
			m.store(m.st.Lay(p.Window, cells))
		},
	}
}

func (m *trial) kind() int {
	if m.given("h") {
		return api.CellRow
	}
	return api.CellCol
}

func paneRows() map[string]func(*trial) {
	return map[string]func(*trial){
		"split-window": func(m *trial) {
			p := m.pane("t")
			id, err := m.st.Split(p.Pane, m.kind(), m.number("l", 0), m.given("b"), !m.given("d"))
			m.store(err)
			p.Pane = id
			m.prints(p)
		},
		"kill-pane": func(m *trial) {
			p := m.pane("t")
			if !m.given("a") {
				m.store(m.st.ClosePane(p.Pane))
				return
			}
			for _, id := range slices.Sorted(slices.Values(layout.Panes(m.shown(p.Window).Cells))) {
				if id != p.Pane {
					m.store(m.st.ClosePane(id))
				}
			}
		},
		"select-pane": func(m *trial) {
			p := m.pane("t")
			m.store(m.st.ChoosePane(m.beside(p)))
		},
		"resize-pane": (*trial).resize,
		"swap-pane": func(m *trial) {
			a := m.pane("s")
			b := m.pane("t")
			m.store(m.st.Swap(a.Pane, b.Pane))
		},
		"break-pane": func(m *trial) {
			from := m.pane("s")
			to := m.index("t")
			p, err := m.st.Break(from.Pane, to.Session, to.Index, m.flags["n"], !m.given("d"))
			m.store(err)
			m.prints(p)
		},
		"join-pane": func(m *trial) {
			a := m.pane("s")
			b := m.pane("t")
			m.store(m.st.Join(a.Pane, b.Pane, m.kind(), m.number("l", 0), m.given("b"), !m.given("d")))
		},
		"list-panes": func(m *trial) {
			const line = "#{pane_index}: [#{pane_width}x#{pane_height}] #{pane_id}#{?pane_active, (active),}"
			if m.given("a") {
				m.each(line, func(api.Place, api.Session, api.Window) bool { return true })
				return
			}
			at := m.window("t")
			m.each(line, func(p api.Place, _ api.Session, _ api.Window) bool {
				return p.Session == at.Session && (m.given("s") || p.Index == at.Index)
			})
		},
	}
}

// beside is the pane that select-pane means.
func (m *trial) beside(p api.Place) int {
	w := m.shown(p.Window)
	for side, letter := range []string{1: "L", 2: "R", 3: "U", 4: "D"} {
		if letter != "" && m.given(letter) {
			pane, ok := layout.Beside(w.Cells, p.Pane, side)
			if !ok {
				m.leave(api.ErrTarget, letter)
			}
			return pane
		}
	}
	if !m.given("l") {
		return p.Pane
	}
	if w.Last == 0 {
		m.leave(api.ErrTarget, "l")
	}
	return w.Last
}

func (m *trial) resize() {
	p := m.pane("t")
	if m.given("Z") {
		m.store(m.st.Zoom(p.Pane))
		return
	}
	n := m.number("word", 1)
	x := m.number("x", 0)
	y := m.number("y", 0)
	switch {
	case m.given("L"):
		m.store(m.st.Push(p.Pane, api.CellRow, -n))
	case m.given("R"):
		m.store(m.st.Push(p.Pane, api.CellRow, n))
	case m.given("U"):
		m.store(m.st.Push(p.Pane, api.CellCol, -n))
	case m.given("D"):
		m.store(m.st.Push(p.Pane, api.CellCol, n))
	}
	if m.given("x") {
		m.store(m.st.Set(p.Pane, api.CellRow, x))
	}
	if m.given("y") {
		m.store(m.st.Set(p.Pane, api.CellCol, y))
	}
}

var (
	flow  = regexp.MustCompile(`^%([1-9][0-9]*):(pause|continue)$`)
	watch = regexp.MustCompile(`(?s)^([^:]*):(|%\*|@\*|[%@][1-9][0-9]*):(.*)$`)
	age   = regexp.MustCompile(`^(?:pause-after=(0|[1-9][0-9]{0,3})|!pause-after)$`)
)

func (m *trial) refresh() {
	if v, ok := m.flags["A"]; ok {
		got := flow.FindStringSubmatch(v)
		if got == nil || len(got[1]) > 18 {
			m.leave(api.ErrValue, v)
		}
		pane := m.toNumber(got[1])
		if !slices.Contains(panesOf(m.was), pane) {
			m.leave(api.ErrTarget, v)
		}
		m.asks(api.Act{Kind: map[string]int{"pause": api.ActPause, "continue": api.ActContinue}[got[2]], Pane: pane})
	}
	if v, ok := m.flags["B"]; ok {
		got := watch.FindStringSubmatch(v)
		switch {
		case got != nil && octal.IsWord(got[1]) && len(got[2]) < 19:
			m.asks(api.Act{Kind: api.ActWatch, Name: got[1], What: got[2], Text: got[3]})
		case octal.IsWord(v):
			m.asks(api.Act{Kind: api.ActUnwatch, Name: v})
		default:
			m.leave(api.ErrValue, v)
		}
	}
	if v, ok := m.flags["f"]; ok {
		got := age.FindStringSubmatch(v)
		n, _ := octal.Number(strings.Join(got[min(1, len(got)):], ""))
		if got == nil || n > 1000 {
			m.leave(api.ErrValue, v)
		}
		m.asks(api.Act{Kind: api.ActAge, N: n})
	}
}
