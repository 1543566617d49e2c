package server

import (
	"fmt"
	"math/rand"
	"regexp"
	"slices"
	"strings"
	"sync"
	"testing"

	"mullion/api"
	"mullion/exec"
	"mullion/lex"
	"mullion/verb"
	"mullion/wire"
)

// tally gathers counts of runs that go side by side.
type tally struct {
	sync.Mutex
	times map[string]int
}

func (n *tally) add(count map[string]int) {
	n.Lock()
	defer n.Unlock()
	for key, times := range count {
		n.times[key] += times
	}
}

// want asks that each of these was met so often.
func (n *tally) want(t *testing.T, least int, keys ...string) {
	t.Helper()
	if testing.Short() {
		return
	}
	for _, key := range keys {
		if n.times[key] < least {
			t.Errorf("only %d times in all runs: %s", n.times[key], key)
		}
	}
}

// inRuns makes runs side by side; they have ended when it has.
func inRuns(t *testing.T, runs int, play func(t *testing.T, seed int64) map[string]int) *tally {
	t.Helper()
	if testing.Short() {
		runs /= 10
	}
	all := &tally{times: map[string]int{}}
	t.Run("runs", func(t *testing.T) {
		for seed := range runs {
			t.Run(fmt.Sprint(seed), func(t *testing.T) {
				t.Parallel()
				all.add(play(t, int64(seed)))
			})
		}
	})
	return all
}

// Long runs of entries, each held against the model, with all that always holds behind it (P10, P11, P14), with times of calm
// in between (P13), and what was told at the end a beginning of a word of the wire (P3) with a block a line (P5).
func TestP1613LongRuns(t *testing.T) {
	met := inRuns(t, 100, func(t *testing.T, seed int64) map[string]int {
		r := newRun(t, seed)
		for i := range 500 {
			r.step()
			if i%125 == 124 && !r.d.full || i == 499 {
				r.calm()
			}
		}
		for _, s := range r.all() {
			r.wantWord(s)
			r.wantBlocks(s)
		}
		return r.count
	})
	met.want(t, 20,
		"1 answers 0", "1 answers 1", "1 answers 160", "2 answers 0", "2 answers 160", "3 answers 0", "3 answers 2", "3 answers 160",
		"4 answers 0", "4 answers 1", "4 answers 160", "5 answers 0", "5 answers 2", "5 answers 42", "6 answers 0", "6 answers 42", "7 answers 0",
		"paused by 3", "paused by 5", "paused by 7", "goes on by 3", "goes on by 6", "told by a tick",
		"closed by 3: %exit detached", "closed by 3: %exit server exited", "closed by 3: %exit session closed", "closed by 3: %exit too far behind", "closed by 6: %exit session closed")
	met.want(t, 3, "closed by 5: %exit too far behind", "closed by 7: %exit too far behind", "-1 answers 1", "0 answers 1", "8 answers 1", "12 answers 1")
}

// wantWord is P3.
func (r *run) wantWord(s *story) {
	r.t.Helper()
	told := s.told.String()
	begins, _ := wire.Word(told)
	if !begins {
		r.t.Fatalf("client %d was told no word of the wire: %q", s.number, told)
	}
	if at := strings.Index(told, "\n%exit"); at >= 0 && strings.Count(told[at+1:], "\n") > 1 {
		r.t.Fatalf("client %d was told something behind its last line: %q", s.number, told[at:])
	}
}

// wantBlocks is P5: of a client that is not closed and has taken all, every line has its block, in their order, of its tick; of
// another one, some of the first lines.
func (r *run) wantBlocks(s *story) {
	r.t.Helper()
	guard := regexp.MustCompile(`(?m)^%(begin|end|error) (\d+) (\d+) 1$`)
	number, open := 0, false
	for _, found := range guard.FindAllStringSubmatch(s.told.String(), -1) {
		if open == (found[1] == "begin") {
			r.t.Fatalf("client %d: %s stands where it can't", s.number, found[0])
		}
		if open = found[1] == "begin"; open {
			number++
		}
		if number > len(s.ticks) || found[2] != fmt.Sprint(s.ticks[number-1]) || found[3] != fmt.Sprint(number) {
			r.t.Fatalf("client %d: %s, and not of the line %d of %v", s.number, found[0], number, s.ticks)
		}
	}
	if peer := r.stories[s.number]; peer == s && !s.closed && r.peer(s.number).Size == 0 && (open || number != len(s.ticks) || number != r.peer(s.number).Count) {
		r.t.Fatalf("client %d has sent %d lines, and was told %d blocks", s.number, len(s.ticks), number)
	}
}

// P6 and P7, line by line: the block's verdict and body, and the store behind it, are what the line's commands do one after the
// other over the store ahead of it, up to the first that fails.
func TestP1613TheAnswers(t *testing.T) {
	met := inRuns(t, 45, func(t *testing.T, seed int64) map[string]int {
		r := newRun(t, 3000+seed)
		r.single = true
		for range 400 {
			e := r.d.entry()
			if e.Kind != api.InInput || r.stories[e.Client] == nil || r.stories[e.Client].closed {
				r.give(e)
				continue
			}
			e.Text = oneLine(e.Text)
			r.wantAnswer(e)
		}
		return r.count
	})
	met.want(t, 100, "a good line", "a line that fails at once", "a line that fails behind others")
	met.want(t, 3, "an answer that is too long")
}

// lineOfText is the line that a text completes.
func lineOfText(begun, text string) (api.Line, bool) {
	all := begun[strings.LastIndexByte(begun, '\n')+1:] + text
	line, _, ended := strings.Cut(all, "\n")
	if len(line) > api.MaxLine {
		return api.Line{Long: true}, ended
	}
	return api.Line{Text: line}, ended
}

func (r *run) wantAnswer(e api.Entry) {
	r.t.Helper()
	line, ended := lineOfText(r.stories[e.Client].sent.String(), e.Text)
	st, here, number := r.s.store.Clone(), r.peer(e.Client).Session, r.peer(e.Client).Count+1
	from := len(r.m.guests[e.Client].all)
	r.give(e)
	if !ended || e.Text != oneLine(e.Text) || len(e.Text) > api.MaxChunk {
		return
	}
	want := api.Answer{Here: here}
	commands, broken := read(line)
	if broken {
		want = exec.Line(st, here, line)
	}
	done := 0
	for _, c := range commands {
		one := exec.Do(st, want.Here, c)
		want.Body, want.Here, want.Err = append(want.Body, one.Body...), one.Here, one.Err
		if one.Err != api.OK {
			want.Body = append(want.Body, exec.Message(one.Err, one.About))
			break
		}
		done++
	}
	var body []string
	for _, text := range want.Body {
		body = append(body, escapedBody(text))
	}
	if sizeOf(body) > api.MaxBody {
		want.Err, body = api.ErrLong, []string{"too long: answer"}
		r.count["an answer that is too long"]++
	}
	told := string(r.m.guests[e.Client].all[from:])
	if got := strings.Join(append(block(r.s.Tick(), number, want.Err == api.OK, body...), ""), "\n"); !strings.HasPrefix(told, got) && !r.peer(e.Client).Closed {
		r.t.Fatalf("%.200q is told\n%s\nand not\n%s", line.Text, told, got)
	}
	if telling(st.State()) != telling(r.s.State()) {
		r.t.Fatalf("%.200q leads to\n%+v\nand not to\n%+v", line.Text, r.s.State(), st.State())
	}
	switch {
	case want.Err == api.OK:
		r.count["a good line"]++
	case done == 0:
		r.count["a line that fails at once"]++
	default:
		r.count["a line that fails behind others"]++
	}
}

// read reads a line's commands; none is done of a line that can't be read.
func read(line api.Line) ([]api.Command, bool) {
	lists, _, err := lex.Commands(line.Text)
	var commands []api.Command
	for _, words := range lists {
		c, _, failed := verb.Read(words)
		commands = append(commands, c)
		err = max(err, failed)
	}
	if line.Long || err != api.OK {
		return nil, true
	}
	return commands, false
}

// P12: every client that is not closed is told every difference, in the order of the steps; one that is closed, the first of them
// and then its last line.
func TestP1613NeverDropped(t *testing.T) {
	met := inRuns(t, 45, func(t *testing.T, seed int64) map[string]int {
		r := newRun(t, 6000+seed)
		r.single = true
		for range 400 {
			r.step()
		}
		for _, p := range r.s.Peers() {
			r.give(draining(p.Client, p.Size))
		}
		for _, s := range r.all() {
			r.wantDue(s)
		}
		return r.count
	})
	met.want(t, 50, "all was told", "the first was told, and the end")
}

func (r *run) wantDue(s *story) {
	r.t.Helper()
	if strings.Count(s.told.String(), "\n") < 2 {
		return
	}
	difference := regexp.MustCompile(`^%(pane-add|pane-close|window-\S+|layout-change|session-(add|close|renamed|window-changed)) `)
	var told []string
	all := strings.Split(s.told.String(), "\n")
	for _, line := range all {
		if difference.MatchString(line) {
			told = append(told, line)
		}
	}
	greeting := len(told) - len(s.due)
	switch {
	case r.stories[s.number] == s && !s.closed:
		if greeting < 0 || !slices.Equal(told[greeting:], s.due) {
			r.t.Fatalf("client %d was told %q, and not %q", s.number, told, s.due)
		}
		r.count["all was told"]++
	case strings.HasPrefix(all[max(0, len(all)-2)], "%exit"):
		r.count["the first was told, and the end"]++
		fallthrough
	default:
		if !beginsWithin(told, s.due) {
			r.t.Fatalf("client %d was told %q, and not a beginning of %q", s.number, told, s.due)
		}
	}
}

// beginsWithin tells whether what is behind some greeting is the beginning of what is due.
func beginsWithin(told, due []string) bool {
	for greeting := range len(told) + 1 {
		if rest := told[greeting:]; len(rest) <= len(due) && slices.Equal(rest, due[:len(rest)]) {
			return true
		}
	}
	return false
}

// script is some entries that a dealer has made for a server of that configuration.
func script(t *testing.T, seed int64, length int) (api.Config, []api.Entry) {
	r := newRun(t, seed)
	for range length {
		r.step()
	}
	return r.m.st.Config(), r.entries
}

// played are the bytes that were drained to each client, attached again or not, and all that is seen at the end.
func played(t *testing.T, c api.Config, entries []api.Entry) string {
	t.Helper()
	s := made(t, c)
	var told [6]strings.Builder
	for _, e := range entries {
		text, err := s.Step(e)
		if e.Kind == api.InDrain && err == api.OK {
			told[e.Client].WriteString(text)
		}
		if e.Kind == api.InAttach && err == api.OK {
			told[e.Client].WriteString("ATTACHED\n")
		}
	}
	out := shown(s)
	for number := range told {
		out += fmt.Sprintf("\nclient %d %s", number, told[number].String())
	}
	return out
}

// pieces cuts inputs and drains in other ways.
func pieces(r *rand.Rand, entries []api.Entry) []api.Entry {
	var out []api.Entry
	for _, e := range entries {
		last := len(out) - 1
		switch {
		case e.Kind == api.InInput && len(e.Text) <= api.MaxChunk:
			if last >= 0 && out[last].Kind == e.Kind && out[last].Client == e.Client && len(out[last].Text)+len(e.Text) <= api.MaxChunk && r.Intn(2) == 0 {
				out[last].Text += e.Text
				continue
			}
			for range r.Intn(4) {
				n := r.Intn(len(e.Text) + 1)
				out = append(out, sending(e.Client, e.Text[:n]))
				e.Text = e.Text[n:]
			}
		case e.Kind == api.InDrain && e.N >= 0:
			if last >= 0 && out[last].Kind == e.Kind && out[last].Client == e.Client && r.Intn(2) == 0 && out[last].N >= 0 {
				out[last].N += e.N
				continue
			}
			for range r.Intn(4) {
				n := r.Intn(e.N + 1)
				out = append(out, draining(e.Client, n))
				e.N -= n
			}
		}
		out = append(out, e)
	}
	return out
}

// P15: how inputs and drains are cut makes no difference.
func TestP1613Pieces(t *testing.T) {
	inRuns(t, 36, func(t *testing.T, seed int64) map[string]int {
		c, entries := script(t, 9000+seed, 300)
		want := played(t, c, entries)
		r := rand.New(rand.NewSource(seed))
		for range 6 {
			if got := played(t, c, pieces(r, entries)); got != want {
				t.Fatalf("cut in another way:\n%s\nand not\n%s", got, want)
			}
		}
		return nil
	})
}

// Byte by byte: every line is answered when its last byte has come.
func TestP1613ByteByByte(t *testing.T) {
	text := "new -s a\n\nsplitw -h\nlsp -F '#D'\nrenamew x ; nothing\nrefresh -B w::x\ndisplay 'a\nkill-session\nnew\n"
	want := played(t, plain(), []api.Entry{attaching(1, 500), sending(1, text), draining(1, 9999)})
	entries := []api.Entry{attaching(1, 500)}
	for i := range len(text) {
		entries = append(entries, sending(1, text[i:i+1]))
	}
	for range 9999 {
		entries = append(entries, draining(1, 1))
	}
	if got := played(t, plain(), entries); got != want {
		t.Errorf("byte by byte:\n%s\nand not\n%s", got, want)
	}
}

// P2: the same entries, the same bytes.
func TestP1613TheSameAgain(t *testing.T) {
	inRuns(t, 12, func(t *testing.T, seed int64) map[string]int {
		c, entries := script(t, 12000+seed, 300)
		if played(t, c, entries) != played(t, c, slices.Clone(entries)) {
			t.Error("the same entries lead to something else")
		}
		return nil
	})
}

// silent is a script in which client 4 is attached once and sends nothing.
func silent(t *testing.T, seed int64) (api.Config, []api.Entry) {
	r := newRun(t, seed)
	r.give(attaching(4, []int{0, 50, 300, 5000, api.MaxLimit}[seed%5]))
	for len(r.entries) < 300 {
		if e := r.d.entry(); e.Client != 4 || e.Kind == api.InDrain {
			r.give(e)
		}
	}
	return r.m.st.Config(), r.entries
}

// others is what is seen and told of all but client 4, behind each entry but the drains of that one.
func others(t *testing.T, c api.Config, entries []api.Entry) []string {
	t.Helper()
	s := made(t, c)
	var out []string
	for _, e := range entries {
		text, err := s.Step(e)
		if e.Kind == api.InDrain && e.Client == 4 {
			continue
		}
		peers := slices.DeleteFunc(s.Peers(), func(p api.Peer) bool { return p.Client == 4 })
		look := fmt.Sprintf("%s: %q %d, tick %d, %+v %+v", telling(e), text, err, s.Tick(), s.State(), peers)
		for _, pane := range panesOf(s.State()) {
			from, to, _ := s.Extent(pane)
			look += fmt.Sprintf(" %d: %d to %d %q", pane, from, to, s.Typed(pane))
		}
		out = append(out, look)
	}
	return out
}

// A client that sends nothing, drained, not drained, drained wholly behind every entry: the store and the others are the same.
func TestP1614Apart(t *testing.T) {
	met := inRuns(t, 40, func(t *testing.T, seed int64) map[string]int {
		c, entries := silent(t, 15000+seed)
		want := others(t, c, entries)
		var never, always, little []api.Entry
		for _, e := range entries {
			if e.Kind != api.InDrain || e.Client != 4 {
				never = append(never, e)
				always = append(always, e, draining(4, api.MaxLimit*2))
				little = append(little, e, draining(4, 1), draining(4, 0), draining(4, -1))
			}
		}
		for how, other := range map[string][]api.Entry{"never": never, "always": always, "little": little} {
			for i, got := range others(t, c, other) {
				if got != want[i] {
					t.Fatalf("client 4 drains %s: %s\nand not %s", how, got, want[i])
				}
			}
		}
		s := made(t, c)
		count := map[string]int{}
		for _, e := range never {
			s.Step(e)
		}
		if peers := s.Peers(); len(peers) > 0 && peers[len(peers)-1].Client == 4 {
			last := peers[len(peers)-1]
			count[fmt.Sprint("closed ", last.Closed)]++
			count[fmt.Sprint("paused ", len(last.Paused) > 0)]++
		}
		return count
	})
	met.want(t, 3, "closed true", "closed false", "paused true")
}

// A client that never drains is paused, and closed, alone.
func TestP1614Alone(t *testing.T) {
	p := working(t).attach(2, 200)
	for !p.peer(2).Closed {
		p.output(1, strings.Repeat("x", 50)).input(1, "renamew a", "renamew b")
		if peer := p.peer(1); peer.Closed || len(peer.Paused) > 0 {
			t.Fatalf("client 1: %+v", peer)
		}
		p.drain(1, api.MaxLimit)
	}
	if peer := p.peer(2); telling(peer.Paused) != "[1]" || peer.Size > 200+api.Spare+32 {
		t.Errorf("client 2: %+v", peer)
	}
	p.output(1, "y").told(1, "%output %1 y").input(1, "has").told(1, block(0, p.peer(1).Count, true)...)
}
