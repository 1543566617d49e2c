package options

import (
	"fmt"
	"math"
	"slices"
	"testing"

	"mullion/api"
)

// pair is options and the book beside them: every call is made on both.
type pair struct {
	t       testing.TB
	options *Options
	book    *book
	faults  int
}

// wrong tells of the first few faults: many would say the same.
func (p *pair) wrong(format string, args ...any) {
	p.t.Helper()
	if p.faults++; p.faults <= 10 {
		p.t.Errorf(format, args...)
	}
}

// begun is new options; a test that has failed makes no more of them.
func begun(t testing.TB) *pair {
	t.Helper()
	if t.Failed() {
		t.FailNow()
	}
	o := New()
	if o == nil {
		t.Fatal("New answers nil")
	}
	return &pair{t: t, options: o, book: &book{}}
}

// fillers are ids of sessions, windows and panes that no test speaks of.
const fillers = 5000

// filled is options of which n things are set, of all scopes but the server's.
func filled(t testing.TB, n int) *pair {
	t.Helper()
	p := begun(t)
	for id := fillers; ; id++ {
		for _, r := range sheet {
			for _, scope := range scopesOf(r) {
				if len(p.book.all) == n {
					return p
				}
				if scope != api.ScopeServer {
					p.set(scope, id, r.name, good(r), api.OK)
				}
			}
		}
	}
}

func full(t testing.TB) *pair {
	t.Helper()
	return filled(t, 500)
}

// someIds are the ids that look asks for, beside those that are set.
var someIds = []int{0, 1, 2, 3, -1, 1 << 62, 1<<62 + 1, math.MinInt, fillers, fillers + 1, fillers + 2, fillers + 3}

// look asks for all that can be asked for.
func (p *pair) look() *pair {
	p.t.Helper()
	return p.lookLocal().lookGet()
}

func (p *pair) lookLocal() *pair {
	p.t.Helper()
	told := 0
	places := map[[2]int]int{}
	for scope := -1; scope <= 6; scope++ {
		for _, id := range someIds {
			places[[2]int{scope, id}]++
		}
	}
	for _, s := range p.book.all {
		places[[2]int{s.Scope, s.Id}]++
	}
	for at := range places {
		got, want := p.options.Local(at[0], at[1]), p.book.local(at[0], at[1])
		if !slices.Equal(got, want) {
			p.wrong("Local(%d, %d) is %s, and not %s", at[0], at[1], shortList(got), shortList(want))
		}
		told += len(got)
	}
	if told != len(p.book.all) {
		p.wrong("%d things are told by Local, and not %d", told, len(p.book.all))
	}
	return p
}

func (p *pair) lookGet() *pair {
	p.t.Helper()
	for _, r := range sheet {
		for _, id := range someIds {
			switch r.scope {
			case 1, 2:
				p.get(r.name, id, 1, 2)
			case 3:
				p.get(r.name, 1, id, 2)
			case 4:
				p.get(r.name, 1, 0, id).get(r.name, 1, 1, id).get(r.name, 2, 2, id).get(r.name, 1, id, 0).get(r.name, 1, id, 3)
			}
		}
	}
	return p
}

func shortList(list []api.Setting) string {
	text := fmt.Sprintf("%d things:", len(list))
	for _, s := range list {
		text += fmt.Sprintf(" {%d %d %s %.40q of %d bytes}", s.Scope, s.Id, s.Name, s.Value, len(s.Value))
	}
	return text
}

// answered holds what a call answered against the model, and against what is wanted.
func (p *pair) answered(call string, got, model, want api.Errno) *pair {
	p.t.Helper()
	if got != want || model != want {
		p.wrong("%s answers %d, the model %d, and not %d", call, got, model, want)
	}
	return p
}

func callOf(verb string, scope, id int, name, value string) string {
	return fmt.Sprintf("%s(%d, %d, %.60q, %.40q of %d bytes)", verb, scope, id, name, value, len(value))
}

func (p *pair) set(scope, id int, name, value string, want api.Errno) *pair {
	p.t.Helper()
	got, model := p.options.Set(scope, id, name, value), p.book.set(scope, id, name, value)
	return p.answered(callOf("Set", scope, id, name, value), got, model, want)
}

func (p *pair) add(scope, id int, name, value string, want api.Errno) *pair {
	p.t.Helper()
	got, model := p.options.Add(scope, id, name, value), p.book.add(scope, id, name, value)
	return p.answered(callOf("Add", scope, id, name, value), got, model, want)
}

func (p *pair) turn(scope, id int, name string, want api.Errno) *pair {
	p.t.Helper()
	got, model := p.options.Turn(scope, id, name), p.book.turn(scope, id, name)
	return p.answered(callOf("Turn", scope, id, name, ""), got, model, want)
}

func (p *pair) unset(scope, id int, name string, want api.Errno) *pair {
	p.t.Helper()
	got, model := p.options.Unset(scope, id, name), p.book.unset(scope, id, name)
	return p.answered(callOf("Unset", scope, id, name, ""), got, model, want)
}

func (p *pair) drop(scope, id int) *pair {
	p.options.Drop(scope, id)
	p.book.drop(scope, id)
	return p
}

// calls are the four calls that may be refused, by their names.
var calls = []string{"Set", "Add", "Turn", "Unset"}

// call makes one of them; what it answers is what the model says.
func (p *pair) call(verb string, scope, id int, name, value string) api.Errno {
	p.t.Helper()
	var got, model api.Errno
	switch verb {
	case "Set":
		got, model = p.options.Set(scope, id, name, value), p.book.set(scope, id, name, value)
	case "Add":
		got, model = p.options.Add(scope, id, name, value), p.book.add(scope, id, name, value)
	case "Turn":
		got, model = p.options.Turn(scope, id, name), p.book.turn(scope, id, name)
	case "Unset":
		got, model = p.options.Unset(scope, id, name), p.book.unset(scope, id, name)
	}
	p.answered(callOf(verb, scope, id, name, value), got, model, model)
	return got
}

func (p *pair) get(name string, session, window, pane int) *pair {
	p.t.Helper()
	got, err := p.options.Get(name, session, window, pane)
	want, model := p.book.get(name, session, window, pane)
	if got != want || err != model {
		p.wrong("Get(%.60q, %d, %d, %d) is %.60q, %d, and not %.60q, %d", name, session, window, pane, got, err, want, model)
	}
	return p
}

// is asks for a value that the test itself says.
func (p *pair) is(name string, session, window, pane int, want string) *pair {
	p.t.Helper()
	got, err := p.options.Get(name, session, window, pane)
	if got != want || err != api.OK {
		p.wrong("Get(%q, %d, %d, %d) is %.60q, %d, and not %.60q", name, session, window, pane, got, err, want)
	}
	return p
}
