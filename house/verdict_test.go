package house

import (
	"strings"
	"testing"

	"mullion/api"
	"mullion/mirror"
	"mullion/server"
)

// A mirror of a server that keeps its promises never differs: so the reports of true ones are changed here.

// staged is a stage on which the lines of a script were played, and what its mirrors have found out.
func staged(t *testing.T, lines ...string) (*stage, []report) {
	t.Helper()
	s, _ := server.New(config)
	g := &stage{server: s, seats: map[int]seat{}}
	for i, e := range read(begin + strings.Join(lines, "\n")).l {
		g.step(i, e)
	}
	return g, g.reports()
}

// theScript leads to two clients that agree: two sessions, two windows, panes 1 and 2 with bytes, 2 paused for the first client, 3 without any.
func theScript() []string {
	return []string{"attach 1 9999", "attach 2 9999", `input 1 new -s a\012splitw\012resizep -Z\012new -d -s b\012`, "output 1 abc", "output 2 xy", `input 1 refresh -A %2:pause\012`, "output 2 z", `input 2 switchc -t b\012`, "drain 1 9999", "drain 2 9999"}
}

func TestP184Differs(t *testing.T) {
	changes := map[string]func(r *report){
		"broken":                      func(r *report) { r.broken = 3 },
		"another session":             func(r *report) { r.session = 2 },
		"no session":                  func(r *report) { r.session = 0 },
		"a session less":              func(r *report) { r.state.Sessions = r.state.Sessions[:1] },
		"a session more":              func(r *report) { r.state.Sessions = append(r.state.Sessions, r.state.Sessions[0]) },
		"a session's id":              func(r *report) { r.state.Sessions[0].Id = 7 },
		"a session's name":            func(r *report) { r.state.Sessions[1].Name = "c" },
		"a session's current index":   func(r *report) { r.state.Sessions[0].Current = -1 },
		"a session's last index":      func(r *report) { r.state.Sessions[0].Last = 0 },
		"a link's index":              func(r *report) { r.state.Sessions[0].Links[0].Index = 1 },
		"a link's window":             func(r *report) { r.state.Sessions[0].Links[0].Window = 2 },
		"no links":                    func(r *report) { r.state.Sessions[1].Links = nil },
		"a window less":               func(r *report) { r.state.Windows = r.state.Windows[1:] },
		"no state":                    func(r *report) { r.state = api.State{} },
		"a window's id":               func(r *report) { r.state.Windows[1].Id = 9 },
		"a window's name":             func(r *report) { r.state.Windows[1].Name = "x" },
		"a window's active pane":      func(r *report) { r.state.Windows[0].Active = 1 },
		"a window's last pane":        func(r *report) { r.state.Windows[0].Last = 1 },
		"a window's zoom":             func(r *report) { r.state.Windows[0].Zoom = false },
		"a window's cells":            func(r *report) { r.state.Windows[0].Cells[0].W-- },
		"no cells":                    func(r *report) { r.state.Windows[1].Cells = nil },
		"a feed less":                 func(r *report) { r.feeds = r.feeds[:2] },
		"no feeds":                    func(r *report) { r.feeds = nil },
		"a feed more":                 func(r *report) { r.feeds = append(r.feeds, api.Feed{Pane: 4}) },
		"a feed of another pane":      func(r *report) { r.feeds[2].Pane = 4 },
		"a feed that is paused":       func(r *report) { r.feeds[0].Paused = true },
		"a feed that is not paused":   func(r *report) { r.feeds[1].Paused = false },
		"a feed behind its end":       func(r *report) { r.feeds[0].End-- },
		"a feed above its end":        func(r *report) { r.feeds[0].End++ },
		"a paused feed above its end": func(r *report) { r.feeds[1].End = 4 },
	}
	for name, change := range changes {
		g, reports := staged(t, theScript()...)
		if v := g.verdict(reports[0]); v != "agrees" {
			t.Fatalf("a true report: %s", v)
		}
		change(&reports[0])
		if v := g.verdict(reports[0]); v != "differs" {
			t.Errorf("%s: %s", name, v)
		}
		if v := g.verdict(reports[1]); v != "agrees" {
			t.Errorf("the other client: %s", v)
		}
	}
}

// What is not asked for may be anything: where a paused feed ends below its pane's end, its bytes, its beginning, the replies.
func TestP184AgreesStill(t *testing.T) {
	for name, change := range map[string]func(r *report){
		"a paused feed at its end":      func(r *report) { r.feeds[1].End = 3 },
		"a paused feed behind its end":  func(r *report) { r.feeds[1].End = 0 },
		"bytes":                         func(r *report) { r.feeds[0].Text = "" },
		"gaps":                          func(r *report) { r.feeds[0].Gaps = []api.Gap{{From: 1, To: 2}} },
		"a feed's beginning":            func(r *report) { r.feeds[0].Start = 2 },
		"replies, messages and watches": func(r *report) { r.replies, r.messages, r.watched = nil, []string{"x"}, []api.Event{{}} },
		"a rest":                        func(r *report) { r.rest = "x" },
	} {
		g, reports := staged(t, theScript()...)
		change(&reports[0])
		if v := g.verdict(reports[0]); v != "agrees" {
			t.Errorf("%s: %s", name, v)
		}
	}
}

// Gone comes ahead of behind, and that ahead of what else is wrong.
func TestP184WhichVerdictFirst(t *testing.T) {
	spoil := func(r report) report {
		r.broken, r.state, r.feeds = 1, api.State{}, nil
		return r
	}
	g, reports := staged(t, append(theScript(), "output 1 x")...)
	for _, r := range reports {
		if v := g.verdict(spoil(r)); v != "behind" {
			t.Errorf("client %d: %s", r.client, v)
		}
	}
	g, reports = staged(t, append(theScript(), "output 1 x", "detach 1", "detach 2", "attach 2 99")...)
	for i, r := range reports {
		if v := g.verdict(spoil(r)); (v == "gone") != (i < 2) {
			t.Errorf("client %d from entry %d: %s", r.client, r.entry, v)
		}
	}
}

// A mirror that is broken, and one that has ended without a reason, are told too.
func TestP184Broken(t *testing.T) {
	m := mirror.New()
	m.Feed("%begin 1 0 0\n%end 1 0 0\n%window-add @3 x\n%exit\nmore\n")
	var b book
	b.report(newReport(2, 5, m))
	if got, want := b.String(), "  in -\n  window @3 x active - last - whole -\n  reply 0 at 1 good\n  ended \n  broken at 5\n"; got != want {
		t.Errorf("%q, and not %q", got, want)
	}
}
