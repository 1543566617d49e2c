package house

import (
	"slices"
	"strconv"
	"sync"

	"mullion/api"
	"mullion/mirror"
	"mullion/server"
)

// stage is a server on which entries are played, with a mirror beside each client.
type stage struct {
	server  *server.Server
	seats   map[int]seat // by clients' numbers: of those that had a number, the last one
	mirrors mirrors
	told    book
}

// seat is where a client's mirror listens.
type seat struct {
	entry  int // at which the client attached
	pieces chan<- string
}

// step plays one entry, and tells how it was answered.
func (g *stage) step(number int, e api.Entry) {
	text, err := g.server.Step(e)
	outcome := "ok"
	switch {
	case err != api.OK:
		outcome = "error " + strconv.Itoa(int(err))
	case e.Kind == api.InAttach:
		g.attach(e.Client, number)
	case text != "": // nothing but a drain gives bytes
		g.seats[e.Client].pieces <- text
		outcome = "ok, " + strconv.Itoa(len(text)) + " bytes"
	}
	g.told.line(strconv.Itoa(number), ": ", outcome)
}

// attach lets a new client have a mirror. Whoever had its number ahead of it is told nothing more.
func (g *stage) attach(client, entry int) {
	if former, ok := g.seats[client]; ok {
		close(former.pieces)
	}
	g.seats[client] = seat{entry: entry, pieces: g.mirrors.begin(client, entry)}
}

// tellAll tells what the server is, and what each mirror has found out.
func (g *stage) tellAll() {
	g.told.server(g.server)
	for _, r := range g.reports() {
		g.told.line("client ", strconv.Itoa(r.client), " from entry ", strconv.Itoa(r.entry))
		g.told.report(r)
		g.told.line("  ", g.verdict(r))
	}
}

// reports gives what the mirrors have found out, when nothing more comes.
func (g *stage) reports() []report {
	for _, s := range g.seats {
		close(s.pieces)
	}
	return g.mirrors.wait()
}

// mirrors are those that listen, each on a goroutine of its own, and what those
// that have heard all have found out.
type mirrors struct {
	listening sync.WaitGroup
	lock      sync.Mutex // of what was found out
	reports   []report
}

// begin lets a new mirror listen to the pieces that are sent, until the channel is closed.
func (m *mirrors) begin(client, entry int) chan<- string {
	pieces := make(chan string)
	m.listening.Add(1)
	go m.listen(client, entry, pieces)
	return pieces
}

func (m *mirrors) listen(client, entry int, pieces <-chan string) {
	defer m.listening.Done()
	one := mirror.New()
	for piece := range pieces {
		one.Feed(piece)
	}
	m.gather(newReport(client, entry, one))
}

func (m *mirrors) gather(r report) {
	m.lock.Lock()
	defer m.lock.Unlock()
	m.reports = append(m.reports, r)
}

// wait gives all reports in the order in which their mirrors began. All channels must be closed.
func (m *mirrors) wait() []report {
	m.listening.Wait()
	slices.SortFunc(m.reports, func(a, b report) int { return a.entry - b.entry })
	return m.reports
}
