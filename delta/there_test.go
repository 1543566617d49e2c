package delta

import (
	"math/rand"
	"slices"
	"testing"

	"mullion/api"
	"mullion/store"
	"mullion/wire"
)

func mustDiff(t *testing.T, a, b api.State) []api.Event {
	t.Helper()
	events, err := Diff(a, b)
	if err != api.OK {
		t.Fatalf("error %d, from\n%sto\n%s", err, show(a), show(b))
	}
	return events
}

// follows applies events one behind the other.
func follows(t *testing.T, s api.State, events []api.Event) api.State {
	t.Helper()
	for i, e := range events {
		next, err := Apply(s, e)
		if err != api.OK {
			t.Fatalf("event %d of %d, %+v: error %d, over\n%s", i+1, len(events), e, err, show(s))
		}
		s = next
	}
	return s
}

func leads(t *testing.T, a, b api.State) {
	t.Helper()
	wantState(t, "behind the difference", follows(t, Plain(a), mustDiff(t, a, b)), Plain(b))
}

// handMade are states that differ in all ways, some of them by little.
func handMade() []api.State {
	all := []api.State{{}, work(), rich(), two(), fullState(), crowd(8, 1, 1, 1), crowd(1, 16, 16, 17), crowd(1, 1, 32, 32)}
	for _, change := range []func(s *api.State){
		func(s *api.State) { s.Sessions[0].Name, s.Sessions[1].Name = "play", "work" },
		func(s *api.State) { s.Windows[0].Cells = side(3, 2, 1) },
		func(s *api.State) { s.Windows[0].Zoom, s.Windows[2].Zoom = true, false },
		func(s *api.State) { s.Windows[2].Active, s.Windows[2].Last = 6, 5 },
		func(s *api.State) {
			s.Windows[0], s.Windows[2] = window(1, "sh", side(5, 6)), window(7, "log 1", side(3, 1))
		},
		func(s *api.State) { s.Sessions[0].Links[0].Window, s.Sessions[0].Links[1].Window = 2, 1 },
		func(s *api.State) { s.Sessions[0].Current, s.Sessions[0].Last = 0, 9 },
		func(s *api.State) { s.Sessions = s.Sessions[:1] },
		func(s *api.State) { s.Sessions = s.Sessions[1:]; s.Windows = s.Windows[1:2] },
	} {
		s := rich()
		change(&s)
		all = append(all, s)
	}
	return all
}

func TestP84ThereByHand(t *testing.T) {
	for _, a := range handMade() {
		for _, b := range handMade() {
			leads(t, a, b)
		}
	}
}

func TestP84ThereByChance(t *testing.T) {
	m := newMaker(84)
	for range 2000 {
		a, b := m.state(), m.state()
		leads(t, a, b)
		leads(t, a, m.near(a))
		leads(t, m.near(b), b)
	}
}

// P85: nothing is told just if the two are the same but for what was current or active ahead.
func TestP85NothingToTell(t *testing.T) {
	for i, a := range handMade() {
		for j, b := range handMade() {
			events := mustDiff(t, a, b)
			if (len(events) == 0) != (i == j) {
				t.Errorf("from state %d to state %d: %+v", i, j, events)
			}
		}
		wantTold(t, a, Plain(a))
		wantTold(t, Plain(a), a)
	}
	m := newMaker(85)
	count := map[bool]int{}
	for range 4000 {
		a := m.state()
		b := m.near(a)
		if m.chance(30) {
			b = m.otherLast(a)
		}
		alike := same(plainOf(a), plainOf(b))
		count[alike]++
		if events := mustDiff(t, a, b); (len(events) == 0) != alike {
			t.Fatalf("from\n%sto\n%s%+v", show(a), show(b), events)
		}
	}
	if count[true] < 500 || count[false] < 500 {
		t.Errorf("the states are too much alike: %v", count)
	}
}

// otherLast changes what was current or active ahead, and nothing else.
func (m *maker) otherLast(s api.State) api.State {
	s = twin(s)
	for i := range s.Sessions {
		x := &s.Sessions[i]
		if x.Last = pick(m, x.Links...).Index; x.Last == x.Current {
			x.Last = -1
		}
	}
	for i := range s.Windows {
		w := &s.Windows[i]
		if w.Last = pick(m, w.Cells...).Pane; w.Last == w.Active {
			w.Last = 0
		}
	}
	return s
}

func TestP86ByWayOfAnother(t *testing.T) {
	m := newMaker(86)
	for range 1500 {
		a := m.state()
		b := m.near(a)
		c := pick(m, m.near(b), m.state(), a)
		events := append(mustDiff(t, a, b), mustDiff(t, b, c)...)
		wantState(t, "by way of another", follows(t, Plain(a), events), Plain(c))
		back := append(append(events, mustDiff(t, c, b)...), mustDiff(t, b, a)...)
		wantState(t, "there and back", follows(t, Plain(a), back), Plain(a))
	}
	for _, a := range handMade() {
		for _, c := range handMade() {
			events := append(mustDiff(t, a, rich()), mustDiff(t, rich(), c)...)
			wantState(t, "by way of another", follows(t, Plain(a), events), Plain(c))
		}
	}
}

func TestP87EachEventHasALine(t *testing.T) {
	m := newMaker(87)
	states := handMade()
	for range 200 {
		states = append(states, m.state())
	}
	for i, a := range states {
		b := states[(i+1)%len(states)]
		events := mustDiff(t, a, b)
		read, rest := wire.Events(lines(t, events))
		if rest != "" || !slices.Equal(read, events) {
			t.Fatalf("%+v is read as %+v, %q", events, read, rest)
		}
		for _, e := range read {
			if line, err := wire.Encode(e); err != api.OK || wire.Class(line) != wire.ClassTold {
				t.Fatalf("%+v: %q, error %d", e, line, err)
			}
		}
		wantState(t, "behind what was read", follows(t, Plain(a), read), Plain(b))
	}
}

// The states of a store, as it goes on, are told from one to the next; whoever follows has them all.
func TestP84AStoreIsFollowed(t *testing.T) {
	for seed := range 20 {
		r := rand.New(rand.NewSource(int64(seed)))
		st, err := store.New(api.Config{W: 80, H: 24, Tail: 10})
		if err != api.OK {
			t.Fatal(err)
		}
		was, mirror := st.State(), api.State{}
		for range 300 {
			change(st, r, was)
			now := st.State()
			if !Valid(now) {
				t.Fatalf("the store has a state that may not be: %q\n%s", broken(now), show(now))
			}
			mirror = follows(t, mirror, mustDiff(t, was, now))
			wantState(t, "the mirror", mirror, plainOf(now))
			was = now
		}
	}
}

// change does something to a store, mostly to what it has.
func change(st *store.Store, r *rand.Rand, s api.State) {
	if len(s.Sessions) == 0 || r.Intn(20) == 0 {
		st.NewSession("", "", 0, 0)
		return
	}
	x, w := s.Sessions[r.Intn(len(s.Sessions))], s.Windows[r.Intn(len(s.Windows))]
	v := s.Windows[r.Intn(len(s.Windows))]
	pane, other := w.Cells[r.Intn(len(w.Cells))].Pane, v.Cells[r.Intn(len(v.Cells))].Pane
	index, kind, yes := x.Links[r.Intn(len(x.Links))].Index, api.CellRow+r.Intn(2), r.Intn(2) == 0
	calls := []func(){
		func() { st.NewWindow(x.Id, -1, "", yes) },
		func() { st.Split(pane, kind, 0, yes, r.Intn(2) == 0) },
		func() { st.Split(pane, kind, 0, yes, r.Intn(2) == 0) },
		func() { st.ClosePane(pane) },
		func() { st.ChoosePane(pane) },
		func() { st.Push(pane, kind, r.Intn(9)-4) },
		func() { st.Zoom(pane) },
		func() { st.Swap(pane, other) },
		func() { st.Break(pane, x.Id, -1, "", yes) },
		func() { st.Join(pane, other, kind, 0, yes, r.Intn(2) == 0) },
		func() { st.RenameSession(x.Id, string(rune('a'+r.Intn(26)))) },
		func() { st.RenameWindow(w.Id, string(rune('a'+r.Intn(26)))) },
		func() { st.Link(x.Id, -1, w.Id, yes) },
		func() { st.Unlink(x.Id, index) },
		func() { st.Move(x.Id, index, s.Sessions[0].Id, r.Intn(40)) },
		func() { st.Exchange(x.Id, index, s.Sessions[0].Id, s.Sessions[0].Links[0].Index) },
		func() { st.Choose(x.Id, index) },
		func() { st.Resize(w.Id, 1+r.Intn(200), 1+r.Intn(60)) },
		func() { st.Arrange(w.Id, 1+r.Intn(5), 0) },
	}
	if r.Intn(25) == 0 {
		calls = append(calls[:0], func() { st.CloseSession(x.Id) }, func() { st.CloseWindow(w.Id) })
	}
	calls[r.Intn(len(calls))]()
}
