package store

import (
	"fmt"
	"math/rand"
	"testing"

	"mullion/api"
	"mullion/layout"
)

// seen counts, over long runs, by which ways calls went: a run that never goes one of them holds nothing.
type seen map[string]int

func (n seen) note(c call, a answer) {
	verdict := "done"
	if a.err != api.OK {
		verdict = fmt.Sprintf("error %d", a.err)
	}
	n[c.name+" "+verdict]++
}

// wantedVerdicts are those that long runs must have come to: each call done, and each error that its promise names. The
// errors of layer 4 that a store's own layouts can't have, and the bounds that only 2^62 bytes or ids reach, are none.
func wantedVerdicts() map[string][]api.Errno {
	return map[string][]api.Errno{
		"Extent": {0}, "Typed": {0},
		"Read":          {0, api.ErrNoPane, api.ErrArg, api.ErrGone, api.ErrAhead},
		"Write":         {0, api.ErrNoPane},
		"Lines":         {0, api.ErrNoPane},
		"Type":          {0, api.ErrNoPane},
		"NewSession":    {0, api.ErrName, api.ErrSide, api.ErrFull, api.ErrTaken},
		"CloseSession":  {0, api.ErrNoSession},
		"RenameSession": {0, api.ErrNoSession, api.ErrName, api.ErrTaken},
		"NewWindow":     {0, api.ErrNoSession, api.ErrArg, api.ErrName, api.ErrTaken, api.ErrFull},
		"CloseWindow":   {0, api.ErrNoWindow},
		"RenameWindow":  {0, api.ErrNoWindow, api.ErrName},
		"Link":          {0, api.ErrNoSession, api.ErrNoWindow, api.ErrArg, api.ErrTaken, api.ErrFull},
		"Unlink":        {0, api.ErrNoSession, api.ErrNoIndex},
		"Move":          {0, api.ErrNoSession, api.ErrNoIndex, api.ErrArg, api.ErrTaken},
		"Exchange":      {0, api.ErrNoSession, api.ErrNoIndex},
		"Choose":        {0, api.ErrNoSession, api.ErrNoIndex},
		"Split":         {0, api.ErrNoPane, api.ErrFull, api.ErrArg, api.ErrSmall},
		"ClosePane":     {0, api.ErrNoPane},
		"ChoosePane":    {0, api.ErrNoPane},
		"Push":          {0, api.ErrNoPane, api.ErrArg, api.ErrAlone},
		"Set":           {0, api.ErrNoPane, api.ErrArg, api.ErrAlone, api.ErrSide},
		"Resize":        {0, api.ErrNoWindow, api.ErrSide, api.ErrSmall},
		"Zoom":          {0, api.ErrNoPane, api.ErrOnly},
		"Swap":          {0, api.ErrNoPane},
		"Lay":           {0, api.ErrNoWindow, api.ErrLayout, api.ErrSide},
		"Arrange":       {0, api.ErrNoWindow, api.ErrArg, api.ErrSmall},
		"Break":         {0, api.ErrNoPane, api.ErrNoSession, api.ErrArg, api.ErrName, api.ErrTaken, api.ErrOnly, api.ErrFull},
		"Join":          {0, api.ErrNoPane, api.ErrArg, api.ErrSmall},
	}
}

func (n seen) check(t *testing.T, least int) {
	t.Helper()
	for name, verdicts := range wantedVerdicts() {
		for _, err := range verdicts {
			key := name + " done"
			if err != api.OK {
				key = fmt.Sprintf("%s error %d", name, err)
			}
			if n[key] < least {
				t.Errorf("only %d times in all runs: %s", n[key], key)
			}
		}
	}
}

// A watch looks on while calls are made on a store: what must hold between the state ahead of a call and the one behind.
type watch struct {
	sessions, windows, panes map[int]bool // ids that were ever seen
	ends                     map[int]int
}

func newWatch() *watch {
	return &watch{map[int]bool{}, map[int]bool{}, map[int]bool{}, map[int]int{}}
}

// lives notes the ids of one kind: one that is not there now and was once is gone for good.
func lives(t *testing.T, kind string, ever map[int]bool, now []int, made int) {
	t.Helper()
	there := map[int]bool{}
	for _, id := range now {
		there[id] = true
		if live, known := ever[id]; known && !live {
			t.Fatalf("%s %d is there again", kind, id)
		}
		if id > made {
			t.Fatalf("%s %d is there, and only %d were made", kind, id, made)
		}
	}
	for id := range ever {
		ever[id] = there[id]
	}
	for id := range there {
		ever[id] = true
	}
}

func (w *watch) look(t *testing.T, s *Store, c call, a answer) {
	t.Helper()
	now := s.State()
	if why := invalid(now); why != "" {
		t.Fatalf("behind %v it is no state: %s\n%s", c, why, show(now))
	}
	var sessions, windows, panes []int
	for _, x := range now.Sessions {
		sessions = append(sessions, x.Id)
	}
	for _, x := range now.Windows {
		windows = append(windows, x.Id)
		panes = append(panes, layout.Panes(x.Cells)...)
	}
	lives(t, "session", w.sessions, sessions, s.sessions.made)
	lives(t, "window", w.windows, windows, s.windows.made)
	lives(t, "pane", w.panes, panes, s.panes.made)
	if len(panes) != len(s.panes.rows) {
		t.Fatalf("behind %v %d panes stand in windows, and %d have logs", c, len(panes), len(s.panes.rows))
	}
	for _, p := range panes {
		_, end, ok := s.Extent(p)
		grown := 0
		if c.name == "Write" && c.a == p && a.err == api.OK {
			grown = len(c.text)
		}
		if !ok || end != w.ends[p]+grown {
			t.Fatalf("behind %v the log of the pane %d ends at %d, %v; it ended at %d", c, p, end, ok, w.ends[p])
		}
		w.ends[p] = end
	}
}

// The configurations of the long runs: windows that have room, and ones that have hardly any.
func runConfigs() []api.Config {
	return []api.Config{{W: 80, H: 24, Tail: 20}, {W: 7, H: 5, Tail: 1}, {W: 1000, H: 1000, Tail: 100}, {W: 3, H: 1, Tail: 7}, {W: 200, H: 60, Tail: 1000}}
}

func TestS18LongRuns(t *testing.T) {
	runs, steps := 60, 1500
	if testing.Short() {
		runs = 10
	}
	done := seen{}
	for run := range runs {
		d := newDesk(t, runConfigs()[run%len(runConfigs())])
		deals := &dealer{r: rand.New(rand.NewSource(int64(run))), b: d.b, closes: []int{100, 30, 5}[run%3]}
		w := newWatch()
		for step := range steps {
			c := deals.deal()
			before := ""
			if step%11 == 0 {
				before = whole(d.s)
			}
			a := d.do(c)
			done.note(c, a)
			w.look(t, d.s, c, a)
			if before != "" && a.err != api.OK && whole(d.s) != before {
				t.Fatalf("%v answers the error %d, and has changed\n%s\nto\n%s", c, a.err, before, whole(d.s))
			}
		}
		if got, want := whole(d.s), whole(d.clone().s); got != want {
			t.Fatalf("the run %d ends as\n%s\nits clone is\n%s", run, got, want)
		}
	}
	if !testing.Short() {
		done.check(t, 5)
	}
}

// Of every call, behind any run, the one that the book refuses is refused by the store too, and uses no id up.
func TestS18AnErrorUsesNoIdUp(t *testing.T) {
	for seed := range 20 {
		d := newDesk(t, runConfigs()[seed%len(runConfigs())])
		deals := &dealer{r: rand.New(rand.NewSource(int64(1000 + seed))), b: d.b, closes: 5}
		for range 300 {
			d.do(deals.deal())
		}
		for range 200 {
			c := deals.deal()
			before := whole(d.s)
			trial := d.clone()
			if a := trial.do(c); a.err != api.OK {
				if d.do(c); whole(d.s) != before || whole(trial.s) != before {
					t.Fatalf("%v answers the error %d, and has changed\n%s\nto\n%s", c, a.err, before, whole(d.s))
				}
			}
		}
	}
}
