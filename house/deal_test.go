package house

import (
	"fmt"
	"math/rand"
	"strings"

	"mullion/api"
	"mullion/server"
)

// dealer makes entries by chance that have something to do with what a server is by then.
type dealer struct {
	*rand.Rand
	s      *server.Server
	now    api.State // what it was when it was looked at last
	kill   int       // of 1000 lines so many close something great
	thin   int       // of 100 drains so many take little
	much   int       // of 100 lines so many are answered much
	limits []int
}

// deal makes a run of so many entries; at its end the clients take all, if the seed is even.
func deal(seed int64, entries int) (api.Config, []api.Entry) {
	c := []api.Config{{W: 80, H: 24, Tail: 100}, {W: 200, H: 200, Tail: 65536}, {W: 30, H: 12, Tail: 1}}[seed%3]
	s, _ := server.New(c)
	d := &dealer{Rand: rand.New(rand.NewSource(seed)), s: s}
	d.kill, d.thin = []int{2, 10, 50}[seed%3], []int{5, 40, 90}[seed/3%3]
	d.limits, d.much = [][]int{{0, 20, 60, 300}, {300, 2000}, {20, 2000, 20000, api.MaxLimit}}[seed/9%3], 1
	if seed%5 == 4 {
		d.kill, d.thin, d.much, d.limits = 0, 97, 20, []int{0, 300}
	}
	var l []api.Entry
	for len(l) < entries {
		e := d.entry()
		l = append(l, e)
		s.Step(e)
	}
	if seed%2 == 0 {
		for _, p := range s.Peers() {
			l = append(l, api.Entry{Kind: api.InDrain, Client: p.Client, N: p.Size})
		}
	}
	return c, l
}

func (d *dealer) chance(of100 int) bool { return d.Intn(100) < of100 }

func pick[T any](d *dealer, from ...T) T { return from[d.Intn(len(from))] }

// id is mostly that of something that is there.
func (d *dealer) id(ids []int) int {
	if len(ids) == 0 || d.chance(4) {
		return d.Intn(40)
	}
	return pick(d, ids...)
}

func (d *dealer) pane() string { return fmt.Sprintf("%%%d", d.id(allPanes(d.now))) }

func (d *dealer) window() string {
	var ids []int
	for _, w := range d.now.Windows {
		ids = append(ids, w.Id)
	}
	return fmt.Sprintf("@%d", d.id(ids))
}

func (d *dealer) session() string {
	var ids []int
	for _, x := range d.now.Sessions {
		ids = append(ids, x.Id)
	}
	return fmt.Sprintf("$%d:", d.id(ids))
}

func (d *dealer) index() string {
	return pick(d, "", fmt.Sprint(d.Intn(12)), d.session(), fmt.Sprint(d.session(), d.Intn(12)))
}

func (d *dealer) name() string {
	return pick(d, "a", "b", "c", "sh", "edit", "x y", `a\b`, "a:b", "")
}

func (d *dealer) format() string {
	return pick(d, "x", "", "#{pane_bytes}", "#S:#I.#P", "#D#F#W", "#{window_layout}", "#{", "%begin 1 1 1", `a\\b`, "  agrees")
}

// making is a command that makes, moves or names something.
func (d *dealer) making() string {
	return pick(d,
		"new -d -s '"+d.name()+"'", "new -d", "new -s '"+d.name()+"' -n '"+d.name()+"'", "new -P -x 20 -y 9", "neww -t '"+d.index()+"'", "neww -d -n '"+d.name()+"'",
		"splitw -t "+d.pane(), "splitw -h -d -t "+d.pane(), "splitw -bP -l 3 -t "+d.pane(), "splitw", "splitw -h", "renamew '"+d.name()+"'", "rename -t '"+d.session()+"' '"+d.name()+"'",
		"linkw -d -s "+d.window()+" -t '"+d.index()+"'", "linkw -s "+d.window()+" -t '"+d.index()+"'", "movew -s "+d.window()+" -t '"+d.index()+"'", "swapw -s "+d.window()+" -t '"+d.index()+"'",
		"swapp -s "+d.pane()+" -t "+d.pane(), "breakp -s "+d.pane()+" -t '"+d.index()+"'", "joinp -h -s "+d.pane()+" -t "+d.pane(), "selectl -t "+d.window()+" "+pick(d, "tiled", "even-vertical", "main-horizontal"),
		"selectw -t "+d.window(), "selectw -n", "selectw -l", "selectp -t "+d.pane(), "selectp -L", "resizep -Z -t "+d.pane(), "resizep -R -t "+d.pane()+" 3", fmt.Sprintf("resizew -x %d -t %s", d.Intn(200), d.window()))
}

// other is a command that asks, types, pauses, watches, or closes a little.
func (d *dealer) other() string {
	watch := fmt.Sprint("n", d.Intn(9))
	what := pick(d, "", "%*", "@*", d.pane(), d.window())
	return pick(d,
		"killp -t "+d.pane(), "killp", "unlinkw -t "+d.window(), "switchc -t '"+d.session()+"'", "switchc -n", "has", "ls", "lsw -a", "lsp -a", "lscm", "capturep -t "+d.pane(),
		"display -p '"+d.format()+"'", "display '"+d.format()+"'", "send -l '"+d.name()+"'", "send -t "+d.pane()+" a Enter C-c", "nothing", "renamew a ; nothing",
		"refresh -A "+d.pane()+":pause", "refresh -A "+d.pane()+":continue", "refresh -A "+d.pane()+":continue", fmt.Sprintf("refresh -A %s:continue -f pause-after=%d", d.pane(), d.Intn(4)),
		"refresh -B "+watch+":"+what+":'"+d.format()+"'", "refresh -B "+watch+":"+what+":'"+d.format()+"'", "refresh -B "+watch, "refresh -f !pause-after", "refresh -f pause-after=1")
}

// line is one to three commands, something that is none, or, seldom, one that closes much.
func (d *dealer) line() string {
	if len(d.now.Sessions) == 0 && d.chance(60) {
		return pick(d, "new", "new -d", "new -s a", "new -d -s b")
	}
	if d.Intn(1000) < d.kill {
		return pick(d, "kill-server", "detach", "kill-session", "killw", "kill-session -t '"+d.session()+"'", "killw -a", "detach ; display x", "kill-session ; new", "kill-server ; new")
	}
	if d.chance(d.much) {
		return "display -p '#{p1000:x}'" + strings.Repeat(" ; display -p '#{p1000:x}'", d.Intn(9))
	}
	if d.chance(2) {
		return pick(d, "", "# remark", "a 'b", ";", strings.Repeat("#", api.MaxLine+d.Intn(2)))
	}
	var commands []string
	for range 1 + d.Intn(3) {
		commands = append(commands, pick(d, d.making(), d.other()))
	}
	return strings.Join(commands, " ; ")
}

// text is what a client sends: lines, the last of which may go on in its next entry.
func (d *dealer) text() string {
	var b strings.Builder
	for range 1 + d.Intn(3) {
		b.WriteString(d.line() + "\n")
	}
	text := b.String()
	if d.chance(15) {
		text = text[:d.Intn(len(text)+1)]
	}
	return text[:min(len(text), api.MaxChunk)]
}

// bytes is what a pane's program writes.
func (d *dealer) bytes() string {
	if d.chance(10) {
		return strings.Repeat(pick(d, "o", "\n", "%", "\xff", "0123456789\n"), d.Intn(900))
	}
	return pick(d, "text", "a\nb\n", "\x00%\\", "%end 0 1 1\n", "z", "%exit\n", "", " gap 0..9 bytes ")
}

func (d *dealer) client() int {
	peers := d.s.Peers()
	if len(peers) == 0 || d.chance(3) {
		return d.Intn(6)
	}
	return pick(d, peers...).Client
}

func (d *dealer) drain() api.Entry {
	e := api.Entry{Kind: api.InDrain, Client: d.client(), N: d.Intn(50)}
	for _, p := range d.s.Peers() {
		if p.Client == e.Client && !d.chance(d.thin) {
			e.N = pick(d, p.Size, p.Size, p.Size+1, d.Intn(p.Size+1))
		}
	}
	return e
}

// entry is any of the seven kinds, or, seldom, one that no server takes.
func (d *dealer) entry() api.Entry {
	d.now = d.s.State()
	pane := d.id(allPanes(d.now))
	switch n := d.Intn(1000); {
	case len(d.s.Peers()) < 2 && n < 500, n < 40:
		return api.Entry{Kind: api.InAttach, Client: 1 + d.Intn(4), N: pick(d, d.limits...)}
	case n < 50:
		return api.Entry{Kind: api.InDetach, Client: d.client()}
	case n < 380:
		return api.Entry{Kind: api.InInput, Client: d.client(), Text: d.text()}
	case n < 640:
		return d.drain()
	case n < 880:
		return api.Entry{Kind: api.InOutput, Pane: pane, Text: d.bytes()}
	case n < 900:
		return api.Entry{Kind: api.InDone, Pane: pane}
	case n < 905:
		return api.Entry{Kind: d.Intn(14) - 1, Client: d.Intn(6) - 1, Pane: d.Intn(4) - 1, N: d.Intn(4) - 1, Text: d.bytes()}
	}
	return api.Entry{Kind: api.InTick}
}
