package exec

import (
	"math/rand"
	"slices"
	"strings"

	"mullion/api"
	"mullion/layout"
	"mullion/lex"
	"mullion/octal"
	"mullion/plan"
	"mullion/store"
	"mullion/verb"
)

// A dealer makes commands by chance that have something to do with a state.
type dealer struct {
	*rand.Rand
	st   *store.Store
	now  api.State
	kill int // of 100 commands that close something, so many stay
}

func newDealer(seed int64, st *store.Store, kill int) *dealer {
	return &dealer{Rand: rand.New(rand.NewSource(seed)), st: st, kill: kill}
}

func (d *dealer) chance(of100 int) bool { return d.Intn(100) < of100 }

func pick[T any](d *dealer, from ...T) T { return from[d.Intn(len(from))] }

func (d *dealer) id(mark string, ids []int) string {
	if len(ids) == 0 || d.chance(8) {
		return mark + decimal(d.Intn(40))
	}
	return mark + decimal(ids[d.Intn(len(ids))])
}

func (d *dealer) sessionPart() string {
	var ids []int
	names := []string{"no such"}
	for _, x := range d.now.Sessions {
		ids = append(ids, x.Id)
		names = append(names, x.Name, "="+x.Name, x.Name[:1], x.Name[:1]+"*")
	}
	return pick(d, "", d.id("$", ids), pick(d, names...), pick(d, names...))
}

func (d *dealer) windowPart() string {
	parts := []string{"", "^", "$", "!", "+", "-", "+2", "-7", "99"}
	for _, x := range d.now.Sessions {
		for _, l := range x.Links {
			parts = append(parts, decimal(l.Index), decimal(l.Index))
		}
	}
	for _, w := range d.now.Windows {
		parts = append(parts, w.Name, "="+w.Name, "@"+decimal(w.Id), w.Name[:1])
	}
	return pick(d, parts...)
}

func (d *dealer) panePart() string {
	return pick(d, "", "0", "1", "2", "5", "!", "+", "-", "+3", "{left-of}", "{right-of}", "{up-of}", "{down-of}", d.id("%", panesOf(d.now)))
}

// target is a text that may mean something.
func (d *dealer) target() string {
	var windows []int
	for _, w := range d.now.Windows {
		windows = append(windows, w.Id)
	}
	return pick(d, "", d.id("%", panesOf(d.now)), d.id("%", panesOf(d.now)), d.id("@", windows), d.windowPart(), d.panePart(), d.sessionPart(),
		d.sessionPart()+":"+d.windowPart(), d.sessionPart()+":"+d.windowPart()+"."+d.panePart(), d.windowPart()+"."+d.panePart(), "*", "nothing like that")
}

// index is a text that may mean an index.
func (d *dealer) index() string {
	return pick(d, "", decimal(d.Intn(60)), decimal(d.Intn(60)), d.sessionPart()+":", d.sessionPart()+":"+decimal(d.Intn(60)), d.sessionPart(), "9999", "10000", d.target())
}

func (d *dealer) number() string {
	if d.chance(12) {
		return pick(d, "", "q", "-1", "05", "1001", "4611686018427387904", "4611686018427387905")
	}
	return pick(d, decimal(d.Intn(6)), decimal(d.Intn(60)), decimal(d.Intn(1001)), "0", "1")
}

func (d *dealer) name() string {
	if d.chance(12) {
		return pick(d, "a:b", " a", "a.", "%a", strings.Repeat("n", 33), "\x01")
	}
	return pick(d, "", "sh", "edit", "work", "a", "b", "c", "walk", "wake", "e d", strings.Repeat("n", 32), decimal(d.Intn(9)))
}

func (d *dealer) format() string {
	if d.chance(25) {
		return pick(d, "#{", "#{a b}", "#{p2000:x}", "#{?#{==:#I,0},#{},x}", "#{e|/|:1,window_index}", strings.Repeat("#{n:", 17)+"x"+strings.Repeat("}", 17))
	}
	return pick(d, "", "#S:#I.#P", "#D#F#W", "#{window_layout} #{window_visible_layout}", "#{pane_bytes},#{pane_active}", "plain", "#{?window_zoomed_flag,Z,-}#{pane_left}x#{pane_top}", "a\nb\\", "%begin 1 1 1")
}

func (d *dealer) layout() string {
	if d.chance(60) || len(d.now.Windows) == 0 {
		return pick(d, "even-horizontal", "even-vertical", "main-horizontal", "main-vertical", "tiled")
	}
	cells := d.now.Windows[d.Intn(len(d.now.Windows))].Cells
	if other, err := layout.Arrange(cells, 1+d.Intn(5), d.Intn(20)); err == api.OK {
		cells = other
	}
	text, _ := plan.Text(cells)
	return pick(d, text, text, text, "0"+text[1:], "nonsense", sumOf("80x24,0,0")+"80x24,0,0", sumOf("80x24,0,0{80x24,0,0,1}")+"80x24,0,0{80x24,0,0,1}", text+strings.Repeat(" ", api.MaxPlan))
}

func (d *dealer) flow() string {
	return d.id("%", panesOf(d.now)) + pick(d, ":pause", ":continue", ":pause", ":continue", ":on", "")
}

func (d *dealer) watch() string {
	return pick(d, "w", "w", "v", "a b", "", "w:x:y") + pick(d, "", ":", "::", ":%*:", ":@*:#{pane_bytes}", ":"+d.id("%", nil)+":f:g", ":"+d.id("@", nil)+":", ":$1:x")
}

func (d *dealer) word() string {
	return pick(d, "a", "Enter", "Tab", "Escape", "Space", "BSpace", "C-a", "C-z", "C-A", "", "-l", "x y", "\x00", "\n")
}

// value is the value of a flag of that command.
func (d *dealer) value(verbs int, letter string) string {
	switch {
	case letter == "t" && slices.Contains([]int{api.VerbNewWindow, api.VerbLinkWindow, api.VerbMoveWindow, api.VerbBreakPane}, verbs):
		return d.index()
	case letter == "s" && verbs == api.VerbNewSession, letter == "n":
		return d.name()
	case letter == "t", letter == "s":
		return d.target()
	case letter == "F":
		return d.format()
	case letter == "A":
		return d.flow()
	case letter == "B":
		return d.watch()
	case letter == "f":
		return pick(d, "pause-after=", "pause-after=", "!pause-after", "") + pick(d, "", "0", "7", "1000", "1001", "x")
	}
	return d.number()
}

func (d *dealer) words(verbs int) []string {
	switch verbs {
	case api.VerbRenameSession, api.VerbRenameWindow:
		return []string{d.name()}
	case api.VerbResizePane:
		return [][]string{nil, {d.number()}}[d.Intn(2)]
	case api.VerbDisplayMessage:
		return [][]string{nil, {d.format()}}[d.Intn(2)]
	case api.VerbSelectLayout:
		return [][]string{{d.layout()}, {d.layout()}, {d.layout(), d.number()}}[d.Intn(3)]
	case api.VerbSendKeys:
		var words []string
		for range d.Intn(5) {
			words = append(words, d.word())
		}
		return words
	}
	return nil
}

// lettersOf tells which flags a command has by its line in the list of commands: those that stand alone, those that take a value.
func lettersOf(verbs int) (alone, valued []string) {
	for _, part := range strings.Split(verb.Usage(verbs), "[-")[1:] {
		letters, _, _ := strings.Cut(part, "]")
		letter, _, takes := strings.Cut(letters, " ")
		if takes {
			valued = append(valued, letter)
		} else {
			alone = strings.Split(letters, "")
		}
	}
	return alone, valued
}

func closes(verbs int) bool {
	return slices.Contains([]int{api.VerbKillPane, api.VerbKillServer, api.VerbKillSession, api.VerbKillWindow, api.VerbUnlinkWindow}, verbs)
}

// deal makes a command of any kind.
func (d *dealer) deal() api.Command {
	verbs := 1 + d.Intn(api.VerbUnlinkWindow)
	for closes(verbs) && !d.chance(d.kill) || verbs == api.VerbKillServer && !d.chance(10) {
		verbs = 1 + d.Intn(api.VerbUnlinkWindow)
	}
	return d.dealOf(verbs)
}

func (d *dealer) dealOf(verbs int) api.Command {
	d.now = d.st.State()
	alone, valued := lettersOf(verbs)
	c := api.Command{Verb: verbs, Words: d.words(verbs)}
	for _, letter := range alone {
		// Of those that close all others there are few: else there would never be many.
		if d.chance(30) && (letter != "a" || !closes(verbs) || d.chance(d.kill)) {
			c.Flags = append(c.Flags, api.Flag{Letter: letter})
		}
	}
	for _, letter := range valued {
		if d.chance(50) {
			c.Flags = append(c.Flags, api.Flag{Letter: letter, Value: d.value(verbs, letter)})
		}
	}
	slices.SortFunc(c.Flags, func(a, b api.Flag) int { return strings.Compare(a.Letter, b.Letter) })
	return c
}

// spelt is a command as a part of a line.
func spelt(c api.Command) string {
	words, _ := verb.Words(c)
	var out []string
	for _, word := range words {
		out = append(out, lex.Quote(word))
	}
	return strings.Join(out, " ")
}

// here is a session for the client: mostly one that there is.
func (d *dealer) here() int {
	if n := len(d.st.State().Sessions); n > 0 && d.chance(95) {
		return d.st.State().Sessions[d.Intn(n)].Id
	}
	return pick(d, 0, -1, 99, api.MaxNumber)
}

// stir writes something into a pane.
func (d *dealer) stir() {
	panes := panesOf(d.st.State())
	if len(panes) > 0 {
		d.st.Write(panes[d.Intn(len(panes))], pick(d, "text", "a\nb\n", "\n", "\x00%\\", strings.Repeat("long ", d.Intn(30)), octal.PutNumber(d.Intn(1000))))
	}
}
