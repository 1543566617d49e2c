package server

import (
	"fmt"
	"math/rand"
	"slices"
	"strings"

	"mullion/api"
)

// A dealer makes entries by chance that have something to do with what a server is.
type dealer struct {
	*rand.Rand
	s    *Server
	kill int  // of 1000 lines so many close something great
	thin int  // of 100 drains so many take little
	full bool // what waits comes near to what may wait
}

func newDealer(seed int64, s *Server) *dealer {
	d := &dealer{Rand: rand.New(rand.NewSource(seed)), s: s}
	d.kill, d.thin, d.full = []int{2, 10, 60}[seed%3], []int{10, 60, 95}[seed/3%3], seed%5 == 4
	if d.full {
		d.kill, d.thin = 0, 100
	}
	return d
}

func (d *dealer) chance(of100 int) bool { return d.Intn(100) < of100 }

func pick[T any](d *dealer, from ...T) T { return from[d.Intn(len(from))] }

// id is mostly that of something that is there.
func (d *dealer) id(ids []int) int {
	if len(ids) == 0 || d.chance(4) {
		return d.Intn(40)
	}
	return pick(d, ids...)
}

func (d *dealer) pane() int { return d.id(panesOf(d.s.State())) }

func (d *dealer) session() int {
	var ids []int
	for _, x := range d.s.State().Sessions {
		ids = append(ids, x.Id)
	}
	return d.id(ids)
}

func (d *dealer) window() int {
	var ids []int
	for _, w := range d.s.State().Windows {
		ids = append(ids, w.Id)
	}
	return d.id(ids)
}

func (d *dealer) name() string {
	return pick(d, "a", "b", "c", "sh", "edit", "work", "a:b", "x y", "")
}

func (d *dealer) format() string {
	return pick(d, "x", "", "#{pane_bytes}", "#S:#I.#P", "#D#F#W", "#{window_layout}", "#{", "#{p900:x}", "#{?pane_active,on,}", `#{e|/|:1,window_index}`, "%begin 1 1 1", `\\`)
}

func (d *dealer) what() string {
	return pick(d, "", "%*", "@*", fmt.Sprint("%", d.pane()), fmt.Sprint("@", d.window()))
}

// command is one that seldom closes more than a pane.
func (d *dealer) command() string {
	p, q, w, x := fmt.Sprint("%", d.pane()), fmt.Sprint("%", d.pane()), fmt.Sprint("@", d.window()), fmt.Sprint("$", d.session())
	index := pick(d, "", fmt.Sprint(d.Intn(12)), x+":", fmt.Sprint(x, ":", d.Intn(12)))
	watch := pick(d, "u", "v", "w", "x", fmt.Sprint("n", d.Intn(9)))
	return pick(d,
		"new -d -s '"+d.name()+"'", "new -d", "new -s '"+d.name()+"' -n '"+d.name()+"'", "new -P -x 20 -y 9",
		"neww -t '"+index+"'", "neww -d -n '"+d.name()+"'", "splitw -t "+p, "splitw -h -d -t "+p, "splitw -bP -l 3 -t "+p, "splitw", "splitw -h",
		"killp -t "+p, "killp", "renamew '"+d.name()+"'", "rename -t '"+x+":' '"+d.name()+"'",
		"linkw -d -s "+w+" -t '"+index+"'", "linkw -s "+w+" -t '"+index+"'", "unlinkw -t "+w, "movew -s "+w+" -t '"+index+"'", "swapw -s "+w+" -t '"+index+"'",
		"selectw -t "+w, "selectw -n", "selectw -l", "selectp -t "+p, "selectp -L", "resizep -Z -t "+p, "resizep -R -t "+p+" 3", "resizew -x "+fmt.Sprint(d.Intn(200))+" -t "+w,
		"swapp -s "+p+" -t "+q, "breakp -s "+p+" -t '"+index+"'", "joinp -h -s "+p+" -t "+q, "selectl -t "+w+" "+pick(d, "tiled", "even-vertical", "main-horizontal", "x"),
		"switchc -t '"+x+":'", "switchc -n", "switchc -p", "has -t '"+x+":'", "ls", "lsw -a", "lsp -a", "lscm", "capturep -t "+p, "display -p '"+d.format()+"'", "display '"+d.format()+"'",
		"send -t "+p+" ls Enter", "send -l '"+d.name()+"'",
		"refresh -A "+p+":pause", "refresh -A "+p+":continue", "refresh -A "+q+":continue -f pause-after="+fmt.Sprint(d.Intn(4)),
		"refresh -B "+watch+":"+d.what()+":'"+d.format()+"'", "refresh -B "+watch+":"+d.what()+":'"+d.format()+"'", "refresh -B "+watch, "refresh -f !pause-after", "refresh -f pause-after=2")
}

// line is one to three commands, something that is none, or, seldom, one that closes much.
func (d *dealer) line() string {
	if len(d.s.State().Sessions) == 0 && d.chance(50) {
		return pick(d, "new", "new -d", "new -s a", "new -d -s b")
	}
	if d.Intn(1000) < d.kill {
		return pick(d, "kill-server", "detach", "kill-session", "killw", fmt.Sprintf("kill-session -t $%d:", d.session()), "kill-session -a", "killw -a", "killp -a",
			"detach ; display x", "kill-session ; new", "display a ; detach ; renamew z", "kill-server ; new")
	}
	switch d.Intn(40) {
	case 0:
		return pick(d, "", " ", "# remark", "nothing", "a 'b", "renamew", "ls -x", ";", "renamew a ; nothing")
	case 1:
		return strings.Repeat("#", api.MaxLine-1+d.Intn(3))
	case 2:
		return "display -p '#{p1000:x}'" + strings.Repeat(" ; display -p '#{p1000:x}'", d.Intn(12))
	}
	line := d.command()
	for range d.Intn(3) {
		line += " ; " + d.command()
	}
	return line
}

// brim is a line whose block leads a client nearer to what may wait for it, in the end to the byte, or a few beyond.
func (d *dealer) brim(p api.Peer) string {
	left := p.Limit + api.Spare - p.Size - sizeOf(block(d.s.Tick(), p.Count+1, true, "")) - d.Intn(40) + 5
	if left > 1000 {
		return "display -p '#{p1000:x}'" + strings.Repeat(" ; display -p '#{p1000:x}'", min(left/1001, 8)-1)
	}
	return "display -p '" + strings.Repeat("f", max(0, left)) + "'"
}

// text is what a client sends: lines, the last of which may go on in its next entry, as may one that was begun.
func (d *dealer) text() string {
	var b strings.Builder
	for range d.Intn(4) {
		b.WriteString(d.line() + "\n")
	}
	text := b.String()
	switch d.Intn(6) {
	case 0:
		return text[:d.Intn(len(text)+1)]
	case 1:
		return text + pick(d, "re", "# ", "\n\n", strings.Repeat("x", 5000))
	}
	return text[:min(len(text), api.MaxChunk)]
}

func (d *dealer) bytes() string {
	switch d.Intn(12) {
	case 0:
		return strings.Repeat("o", 256*d.Intn(4)+d.Intn(3))
	case 1:
		return strings.Repeat(pick(d, "\n", "%", "\xff"), d.Intn(1000))
	case 2:
		return ""
	}
	return pick(d, "text", "a\nb\n", "\x00%\\", "%end 0 1 1\n", "z", "%exit\n")
}

func (d *dealer) client() int {
	peers := d.s.Peers()
	if len(peers) == 0 || d.chance(3) {
		return d.Intn(7) - 1
	}
	return pick(d, peers...).Client
}

func (d *dealer) draining() api.Entry {
	number := d.client()
	size := 0
	for _, peer := range d.s.Peers() {
		if peer.Client == number {
			size = peer.Size
		}
	}
	switch {
	case d.chance(d.thin):
		return draining(number, d.Intn(60)-1)
	case d.chance(70):
		return draining(number, size)
	}
	return draining(number, d.Intn(size+20))
}

// isBrimful tells whether there is a client that has no room for a line.
func (d *dealer) isBrimful() bool {
	return slices.ContainsFunc(d.s.Peers(), func(p api.Peer) bool { return !p.Closed && p.Limit+api.Spare-p.Size < 20 })
}

// areClosed tells whether there is nobody but closed clients.
func (d *dealer) areClosed() bool {
	return !slices.ContainsFunc(d.s.Peers(), func(p api.Peer) bool { return !p.Closed })
}

// entry is any of the seven kinds, or, seldom, none of them.
func (d *dealer) entry() api.Entry {
	switch n := d.Intn(100); {
	case n < 40 && d.areClosed():
		return pick(d, detaching(d.client()), draining(d.client(), 2*api.MaxLimit), attaching(1+d.Intn(4), 300))
	case n < 80 && d.full && d.isBrimful():
		return pick(d, writing(d.pane(), "brim"), ticking())
	case len(d.s.Peers()) < 2 && n < 40, n < 4:
		limit := pick(d, 0, 12, 60, 300, 2000, 20000, api.MaxLimit)
		if d.full {
			limit = min(limit, 300)
		}
		return attaching(1+d.Intn(4), limit)
	case n < 6:
		return pick(d, attaching(d.Intn(7)-1, d.Intn(70000)-100), attaching(1+d.Intn(4), pick(d, -1, api.MaxLimit+1)), detaching(d.Intn(7)-1), detaching(d.client()),
			api.Entry{Kind: pick(d, -1, 0, 8, 9, 10, 11, 12), Client: 1, N: 1},
			sending(d.client(), strings.Repeat("x", api.MaxChunk+d.Intn(2))), writing(d.pane(), strings.Repeat("x", api.MaxChunk+d.Intn(2))))
	case n < 16 && d.full && len(d.s.Peers()) > 0:
		p := pick(d, d.s.Peers()...)
		return sending(p.Client, d.brim(p)+"\n")
	case n < 46:
		return sending(d.client(), d.text())
	case n < 66:
		return d.draining()
	case n < 86:
		return writing(d.pane(), d.bytes())
	case n < 88:
		return ending(d.pane())
	}
	return ticking()
}
