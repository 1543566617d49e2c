package exec

import (
	"fmt"
	"slices"
	"strings"
	"sync"
	"testing"

	"mullion/api"
	"mullion/store"
	"mullion/verb"
)

func runConfigs() []api.Config {
	return []api.Config{{W: 80, H: 24, Tail: 50}, {W: 9, H: 5, Tail: 1}, {W: 1000, H: 1000, Tail: 100}, {W: 3, H: 1, Tail: 7}, {W: 200, H: 60, Tail: 1000}}
}

// seen counts what came of the commands, of runs that go on side by side.
type seen struct {
	sync.Mutex
	times map[string]int
}

func newSeen() *seen { return &seen{times: map[string]int{}} }

func (n *seen) note(key string) {
	n.Lock()
	defer n.Unlock()
	n.times[key]++
}

func verdict(name string, err api.Errno) string { return fmt.Sprint(name, " ", int(err)) }

// wanted has for each command the errors that it can answer in a run: all that the chapter lets it, but those of logs
// and ids that only 2^62 of them reach.
func wanted() map[string][]api.Errno {
	session := []api.Errno{api.OK, api.ErrTarget, api.ErrMany, api.ErrNowhere}
	and := func(more ...api.Errno) []api.Errno { return append(slices.Clone(session), more...) }
	return map[string][]api.Errno{
		"break-pane":      and(api.ErrName, api.ErrTaken, api.ErrOnly, api.ErrFull),
		"capture-pane":    and(api.ErrValue),
		"detach-client":   {api.OK},
		"display-message": and(api.ErrFormat, api.ErrLong, api.ErrDeep),
		"has-session":     session,
		"join-pane":       and(api.ErrValue, api.ErrArg, api.ErrSmall),
		"kill-pane":       session,
		"kill-server":     {api.OK},
		"kill-session":    session,
		"kill-window":     session,
		"link-window":     and(api.ErrTaken, api.ErrFull),
		"list-commands":   {api.OK},
		"list-panes":      and(api.ErrFormat, api.ErrLong, api.ErrDeep),
		"list-sessions":   {api.OK, api.ErrFormat, api.ErrLong, api.ErrDeep},
		"list-windows":    and(api.ErrFormat, api.ErrLong, api.ErrDeep),
		"move-window":     and(api.ErrTaken),
		"new-session":     {api.OK, api.ErrValue, api.ErrName, api.ErrSide, api.ErrFull, api.ErrTaken},
		"new-window":      and(api.ErrName, api.ErrTaken, api.ErrFull),
		"refresh-client":  {api.OK, api.ErrValue, api.ErrTarget},
		"rename-session":  and(api.ErrName, api.ErrTaken),
		"rename-window":   and(api.ErrName),
		"resize-pane":     and(api.ErrValue, api.ErrAlone, api.ErrSide, api.ErrOnly),
		"resize-window":   and(api.ErrValue, api.ErrSide, api.ErrSmall),
		"select-layout":   and(api.ErrValue, api.ErrSmall, api.ErrCount, api.ErrPlan, api.ErrSum, api.ErrLong, api.ErrLayout, api.ErrSide),
		"select-pane":     session,
		"select-window":   session,
		"send-keys":       session,
		"split-window":    and(api.ErrValue, api.ErrFull, api.ErrSmall),
		"swap-pane":       session,
		"swap-window":     session,
		"switch-client":   session,
		"unlink-window":   and(api.ErrOnly),
	}
}

func (n *seen) check(t *testing.T, least int) {
	t.Helper()
	if len(wanted()) != api.VerbUnlinkWindow {
		t.Errorf("%d commands are known", len(wanted()))
	}
	for name, errs := range wanted() {
		for _, err := range errs {
			key := verdict(name, err)
			if n.times[key] < least {
				t.Errorf("only %d times in all runs: %s", n.times[key], key)
			}
			delete(n.times, key)
		}
	}
	for key, times := range n.times {
		t.Errorf("%d times in all runs, and not foreseen: %s", times, key)
	}
}

// never are the commands that never change the store.
func never() []string {
	return strings.Split("has-session, list-sessions, list-windows, list-panes, list-commands, display-message, capture-pane, switch-client, refresh-client, detach-client", ", ")
}

// hold does a command, and holds what comes of it against the table.
func hold(t *testing.T, st *store.Store, here int, c api.Command) api.Answer {
	t.Helper()
	was := whole(st)
	ahead := st.Clone()
	want, behind := expectDo(st, here, c)
	got := Do(st, here, c)
	if told(got) != told(want) {
		t.Fatalf("%s at %d over\n%s\nanswers %s\nand not %s", spelt(c), here, was, told(got), told(want))
	}
	now := whole(st)
	if now != whole(behind) {
		t.Fatalf("%s at %d over\n%s\nleads to\n%s\nand not to\n%s", spelt(c), here, was, now, whole(behind))
	}
	name := verb.Name(c.Verb)
	if (got.Err != api.OK || slices.Contains(never(), name)) && now != was {
		t.Fatalf("%s at %d answers %s, and has changed\n%s\nto\n%s", spelt(c), here, told(got), was, now)
	}
	if name == "send-keys" && outside(st) != outside(ahead) {
		t.Fatalf("%s at %d has changed more than what was typed", spelt(c), here)
	}
	return got
}

// inRuns makes so many runs side by side, each with its number; they have ended when it has.
func inRuns(t *testing.T, runs int, run func(t *testing.T, number int)) {
	t.Helper()
	if testing.Short() {
		runs /= 10
	}
	t.Run("runs", func(t *testing.T) {
		for number := range runs {
			t.Run(decimal(number), func(t *testing.T) {
				t.Parallel()
				run(t, number)
			})
		}
	})
}

// Long runs of commands, each held against the chapter's table; those that fail have changed nothing.
func TestE2LongRuns(t *testing.T) {
	done := newSeen()
	inRuns(t, 45, func(t *testing.T, run int) {
		d := newDesk(t, runConfigs()[run%5])
		if run%9 == 8 {
			d = filled(t, 4, 15, 32, 32)
		}
		deals := newDealer(int64(run), d.st, []int{60, 20, 3}[run%3])
		here := 0
		for step := range 500 {
			if step%3 == 0 {
				deals.stir()
			}
			if step%4 == 0 {
				here = deals.here()
			}
			c := deals.deal()
			if step < 3 && run%9 != 8 {
				c = deals.dealOf(api.VerbNewSession)
			}
			a := hold(t, d.st, here, c)
			done.note(verdict(verb.Name(c.Verb), a.Err))
			here = a.Here
		}
	})
	if !testing.Short() {
		done.check(t, 3)
	}
}

// Of every command, in any state: the store that a failed one is handed is as it was, down to the ids that it would
// use next; those that never change it don't, and send-keys changes what was typed alone.
func TestE5NothingHasChanged(t *testing.T) {
	failed, kept := newSeen(), newSeen()
	inRuns(t, 25, func(t *testing.T, run int) {
		d := newDesk(t, runConfigs()[run%5])
		deals := newDealer(int64(500+run), d.st, 20)
		for range 60 {
			hold(t, d.st, deals.here(), deals.deal())
			deals.stir()
		}
		for verbs := 1; verbs <= api.VerbUnlinkWindow; verbs++ {
			for range 12 {
				deals.st = d.st.Clone()
				here, c := deals.here(), deals.dealOf(verbs)
				was, without := whole(deals.st), outside(deals.st)
				a := Do(deals.st, here, c)
				name := verb.Name(verbs)
				if slices.Contains(never(), name) || a.Err != api.OK {
					if now := whole(deals.st); now != was {
						t.Fatalf("%s answers %s, and has changed\n%s\nto\n%s", spelt(c), told(a), was, now)
					}
					kept.note(name)
				}
				if a.Err != api.OK {
					if told(a) != told(api.Answer{Here: here, Err: a.Err, About: a.About}) {
						t.Fatalf("%s has failed, and answers %s", spelt(c), told(a))
					}
					failed.note(name)
				}
				if name == "send-keys" && outside(deals.st) != without {
					t.Fatalf("%s has changed more than what was typed", spelt(c))
				}
			}
		}
	})
	for _, name := range verb.List() {
		alwaysDone := slices.Contains([]string{"detach-client", "kill-server", "list-commands"}, name)
		if failed.times[name] == 0 && !alwaysDone || slices.Contains(never(), name) && kept.times[name] == 0 {
			t.Errorf("%s has failed %d times, and kept the store %d times", name, failed.times[name], kept.times[name])
		}
	}
}

// line makes a line of several commands.
func (d *dealer) line(most int) (string, []api.Command) {
	var parts []string
	var commands []api.Command
	for range 1 + d.Intn(most) {
		c := d.deal()
		commands = append(commands, c)
		parts = append(parts, spelt(c))
	}
	return strings.Join(parts, pick(d, ";", " ; ", ";;", " ;\t")), commands
}

// oneByOne does commands one after the other, up to the first that fails, as a line does them.
func oneByOne(st *store.Store, here int, commands []api.Command) api.Answer {
	a := api.Answer{Here: here}
	for _, c := range commands {
		one := Do(st, a.Here, c)
		a = api.Answer{Body: append(a.Body, one.Body...), Acts: append(a.Acts, one.Acts...), Here: one.Here, Err: one.Err, About: one.About}
		if a.Err != api.OK {
			a.Body = append(a.Body, Message(a.Err, a.About))
			return a
		}
	}
	return a
}

// fitsInOne tells whether commands fit into one line, and an answer into a block.
func fitsInOne(line string, commands []api.Command, a api.Answer) bool {
	words := 0
	for _, c := range commands {
		list, _ := verb.Words(c)
		words += len(list)
	}
	size := 0
	for _, l := range a.Body {
		size += 4*len(l) + 1
	}
	return len(line) <= api.MaxLine && len(commands) <= api.MaxCommands && words <= api.MaxWords && size <= api.MaxBody
}

// A line of several commands against its commands one by one, and against the table.
func TestE6LineAgainstItsCommands(t *testing.T) {
	lines := newSeen()
	inRuns(t, 40, func(t *testing.T, run int) {
		d := newDesk(t, runConfigs()[run%5])
		deals := newDealer(int64(900+run), d.st, 15)
		here := 0
		for step := range 150 {
			deals.stir()
			if step%5 == 0 {
				here = deals.here()
			}
			line, commands := deals.line(5)
			other := d.st.Clone()
			want, behind := expectLine(d.st, here, api.Line{Text: line})
			single := oneByOne(other, here, commands)
			got := Line(d.st, here, api.Line{Text: line})
			if told(got) != told(want) || whole(d.st) != whole(behind) {
				t.Fatalf("%s at %d answers %s\nand not %s", line, here, told(got), told(want))
			}
			if !fitsInOne(line, commands, single) {
				lines.note("long")
			} else if told(got) != told(single) || whole(d.st) != whole(other) {
				t.Fatalf("%s at %d answers %s\none by one %s", line, here, told(got), told(single))
			} else if got.Err == api.OK {
				lines.note("done")
			} else {
				lines.note("failed")
			}
			here = got.Here
		}
	})
	if !testing.Short() && (lines.times["done"] < 500 || lines.times["failed"] < 500 || lines.times["long"] < 5) {
		t.Errorf("the lines: %v", lines.times)
	}
}

// Two lines one behind the other, both without an error, against the one line that holds both.
func TestE6TwoLinesAgainstOne(t *testing.T) {
	pairs := newSeen()
	inRuns(t, 40, func(t *testing.T, run int) {
		d := newDesk(t, runConfigs()[run%5])
		deals := newDealer(int64(2000+run), d.st, 15)
		here := 0
		for step := range 200 {
			deals.stir()
			if step%9 == 0 {
				here = deals.here()
			}
			first, some := deals.line(3)
			trial := d.st.Clone()
			a := Line(trial, here, api.Line{Text: first})
			deals.st = trial
			second, more := deals.line(3)
			b := Line(trial, a.Here, api.Line{Text: second})
			deals.st = d.st
			both := api.Answer{Body: append(slices.Clone(a.Body), b.Body...), Acts: append(slices.Clone(a.Acts), b.Acts...), Here: b.Here}
			line := first + pick(deals, ";", " ; ") + second + pick(deals, "", " # remark", " #")
			if a.Err != api.OK || b.Err != api.OK || !fitsInOne(line, slices.Concat(some, more), both) {
				continue
			}
			got := Line(d.st, here, api.Line{Text: line})
			if told(got) != told(both) || whole(d.st) != whole(trial) {
				t.Fatalf("%s at %d answers %s\nin two lines %s", line, here, told(got), told(both))
			}
			pairs.note("held")
			if got.Here != here {
				pairs.note("with another session behind them")
			}
			here = got.Here
		}
	})
	if !testing.Short() && (pairs.times["held"] < 500 || pairs.times["with another session behind them"] < 30) {
		t.Errorf("the pairs: %v", pairs.times)
	}
}

// A remark, blanks and empty commands change nothing.
func TestE6Remarks(t *testing.T) {
	for _, line := range []string{"renamew x ; lsw", " renamew  x;lsw", ";;renamew x;;lsw;;", "renamew x;lsw # killw", "\trenamew\tx\t;\tlsw\t", `"renamew" 'x' ; l"sw"`} {
		world(t).ok(line, "0: sh- (1 panes) [80x24]", "1: x* (2 panes) [80x24]")
	}
}

// The values at every place of many states, and at places that are none.
func TestE4EveryPlace(t *testing.T) {
	places := newSeen()
	inRuns(t, 20, func(t *testing.T, run int) {
		d := newDesk(t, runConfigs()[run%5])
		deals := newDealer(int64(3000+run), d.st, 10)
		for range 12 {
			for range 10 {
				Do(d.st, deals.here(), deals.deal())
				deals.stir()
			}
			now := d.st.State()
			for _, x := range append(now.Sessions, api.Session{Id: 0, Links: []api.Link{{Index: 0, Window: 1}}}) {
				for _, l := range append(x.Links, api.Link{Index: -1, Window: 1}, api.Link{Index: 7, Window: 2}) {
					for _, pane := range append(panesOf(now), 0, 99) {
						p := place(x.Id, l.Index, l.Window, pane)
						got, want := Vars(d.st, p), expectVars(d.st, p)
						if !slices.Equal(got, want) {
							t.Fatalf("Vars(%v) over\n%s\nare %q\nand not %q", p, show(now), got, want)
						}
						places.note(fmt.Sprint(len(want), " values"))
					}
				}
			}
		}
	})
	if !testing.Short() && (places.times["22 values"] < 1000 || places.times["0 values"] < 1000) {
		t.Errorf("the places: %v", places.times)
	}
}
