package client

import (
	"fmt"
	"math"
	"math/rand"
	"regexp"
	"strconv"
	"strings"
	"testing"

	"mullion/api"
	"mullion/wire"
)

// run is a pair on which calls are made by chance.
type run struct {
	*pair
	r      *rand.Rand
	plain  bool           // Notify and Tell are handed no pauses, and all offsets have lines
	tick   int            // rises
	last   int            // the bytes of the last line, with its end
	count  map[string]int // how often each outcome was met
	events []api.Event
}

func goes(t *testing.T, limit int, seed int64, plain bool, count map[string]int) *run {
	r := &run{pair: paired(t, limit), r: rand.New(rand.NewSource(seed)), plain: plain, count: count}
	for _, s := range toldSamples() {
		if k := s.e.Kind; !plain || k != api.EvOutput && k != api.EvPause && k != api.EvContinue {
			r.events = append(r.events, s.e)
		}
	}
	r.events = append(r.events, message(900))
	return r
}

func (r *run) pane() int {
	if r.r.Intn(20) == 0 {
		return []int{0, -1, api.MaxNumber + 1, math.MinInt}[r.r.Intn(4)]
	}
	return 1 + r.r.Intn(4)
}

func (r *run) offset() int {
	if !r.plain && r.r.Intn(12) == 0 {
		return noOffsets()[r.r.Intn(4)]
	}
	return r.r.Intn(2000)
}

// someEvents is a list of events, some of them such as are passed over.
func (r *run) someEvents() []api.Event {
	var l []api.Event
	for range r.r.Intn(6) {
		e := r.events[r.r.Intn(len(r.events))]
		switch r.r.Intn(6) {
		case 0:
			e = passedOver()[r.r.Intn(len(passedOver()))]
		case 1:
			e = api.Event{Kind: api.EvPaneClose, Pane: 1 + r.r.Intn(4)}
		}
		l = append(l, e)
	}
	return l
}

// text is some bytes, of those too that are escaped.
func (r *run) text(most int) string {
	alphabet := "ab %\\\n\x00\xff%endbegin"
	b := make([]byte, r.r.Intn(most+1))
	for i := range b {
		b[i] = alphabet[r.r.Intn(len(alphabet))]
	}
	return string(b)
}

func (r *run) body() []string {
	var body []string
	for range r.r.Intn(4) {
		body = append(body, r.text(20))
	}
	switch r.r.Intn(40) {
	case 0:
		body = append(body, strings.Repeat("x", 8185+r.r.Intn(10)))
	case 1:
		body = append(body, make([]string, r.r.Intn(40000))...)
	}
	return body
}

// data is some bytes of a pane: at times about as many as the limit has room for, or about a full piece.
func (r *run) data() string {
	switch r.r.Intn(6) {
	case 0:
		return strings.Repeat("d", max(0, r.m.limit-r.m.size()-12+r.r.Intn(3)-1))
	case 1:
		return strings.Repeat("p", 256*r.r.Intn(3)+r.r.Intn(3))
	}
	return r.text(30)
}

func (r *run) name() string { return []string{"w", "a", "b b", "x1", "w", ""}[r.r.Intn(6)] }

// step makes one call, and notes what came of it.
func (r *run) step(ends bool) {
	was := r.m.peer(1)
	what := r.call(ends)
	now := r.c.Peer(1)
	switch {
	case was.Closed:
		what += ", closed already"
	case now.Closed:
		what += ", closes"
	case len(now.Paused) > len(was.Paused):
		what += ", pauses"
	case now.Size > was.Size:
		what += ", told"
	default:
		what += ", nothing"
	}
	r.count[what]++
	if now.Closed && !was.Closed {
		r.last = len(r.m.all) - strings.LastIndexByte(string(r.m.all[:len(r.m.all)-1]), '\n') - 1
	}
	r.wantBounds(what, was, now)
}

// wantBounds is C16.
func (r *run) wantBounds(what string, was, now api.Peer) {
	if now.Size > now.Limit+api.Spare+r.last || !now.Closed && now.Size > now.Limit+api.Spare {
		r.t.Fatalf("%s: size %d, limit %d, the last line %d", what, now.Size, now.Limit, r.last)
	}
	if what == "output, told" && now.Size > now.Limit {
		r.t.Fatalf("output leads from %d to %d, above the limit %d", was.Size, now.Size, now.Limit)
	}
}

func (r *run) call(ends bool) string {
	r.tick += r.r.Intn(2)
	switch k := r.r.Intn(32); k {
	case 0, 1, 2, 3:
		r.notify(r.someEvents()...)
		return "notify"
	case 4, 5, 6, 7, 8, 9:
		tick := r.tick
		if r.r.Intn(60) == 0 {
			tick = -1
		}
		r.output(r.pane(), tick, r.offset(), r.data())
		return "output"
	case 10, 11, 12:
		tick := r.tick
		if ends && r.r.Intn(40) == 0 {
			tick = noOffsets()[r.r.Intn(4)]
		}
		r.block(tick, r.r.Intn(3) > 0, r.body()...)
		return "block"
	case 13:
		r.pause(r.pane(), r.offset())
		return "pause"
	case 14, 15, 16:
		r.goOn(r.pane(), r.offset())
		return "continue"
	case 17:
		for _, pane := range r.late(r.tick + r.r.Intn(5)) {
			r.pause(pane, r.offset())
		}
		return "late"
	case 18:
		r.setAge([]int{0, 1, 2, 5, 1000, -1, 1001}[r.r.Intn(7)])
		return "age"
	case 19:
		r.watch(r.name(), r.text(3), r.text(3))
		return "watch"
	case 20:
		if r.r.Intn(3) == 0 {
			r.unwatch(r.name())
		}
		return "unwatch"
	case 21, 22:
		r.tell(r.name(), r.someEvents()...)
		return "tell"
	case 23:
		r.goTo(r.r.Intn(5)-1, r.name())
		return "go"
	case 24:
		r.feed(r.text(40))
		return "feed"
	case 25:
		if ends && r.r.Intn(4) == 0 {
			r.exit(r.text(2000))
		}
		return "exit"
	case 26:
		r.drain(math.MaxInt)
	default:
		r.drain(r.r.Intn(120) - 2)
	}
	return "drain"
}

// wantWord is C14: what was drained up to now.
func (r *run) wantWord() {
	r.t.Helper()
	if begins, _ := wire.Word(r.told.String()); !begins {
		r.t.Fatalf("no beginning of a word: %q", r.told.String())
	}
}

// wantWhole drains all: now it is a word, and of a closed client it ends with the exit.
func (r *run) wantWhole() {
	r.t.Helper()
	r.drain(math.MaxInt)
	told := r.told.String()
	if begins, whole := wire.Word(told); !begins || !whole {
		r.t.Fatalf("no word: %q", told)
	}
	lines := strings.Split(told, "\n")
	if len(lines) > 1 && strings.HasPrefix(lines[len(lines)-2], "%exit") != r.c.Closed() {
		r.t.Fatalf("closed is %v; the last line is %q", r.c.Closed(), lines[len(lines)-2])
	}
}

// wantNumbers is C15: the blocks' numbers, one behind the other.
func (r *run) wantNumbers() {
	r.t.Helper()
	guards := regexp.MustCompile(`(?m)^%(begin|end|error) (\d+) (\d+) ([01])$`).FindAllStringSubmatch(r.told.String(), -1)
	number := 0
	for i := 0; i+1 < len(guards); i += 2 {
		begin, end := guards[i], guards[i+1]
		if begin[4] == "1" {
			number++
		}
		want := strconv.Itoa(number)
		if begin[4] == "0" {
			want = "0"
		}
		if begin[1] != "begin" || end[1] == "begin" || begin[3] != want || end[3] != want || begin[2] != end[2] || begin[4] != end[4] {
			r.t.Fatalf("the guards %q and %q; the number is %d", begin[0], end[0], number)
		}
	}
	peer := r.c.Peer(1)
	if peer.Size == 0 && peer.Count != number && !(peer.Closed && peer.Count == number+1) {
		r.t.Fatalf("%d blocks were told; the count is %d", number, peer.Count)
	}
}

// wantPauses is C17: no output between a pause and what ends it.
func (r *run) wantPauses() {
	r.t.Helper()
	paused := map[string]bool{}
	told := r.told.String()
	for line := range strings.SplitSeq(told[:strings.LastIndexByte(told, '\n')+1], "\n") {
		words := strings.SplitN(line, " ", 3)
		switch words[0] {
		case "%pause":
			if paused[words[1]] {
				r.t.Fatalf("paused twice: %s", line)
			}
			paused[words[1]] = true
		case "%continue":
			if !paused[words[1]] {
				r.t.Fatalf("goes on, and was not paused: %s", line)
			}
			delete(paused, words[1])
		case "%pane-close":
			delete(paused, words[1])
		case "%output":
			if paused[words[1]] {
				r.t.Fatalf("output of a paused pane: %s", line)
			}
			r.count["output is drained"]++
		}
	}
	r.count[fmt.Sprint("paused at the end: ", len(paused))]++
}

func wantOutcomes(t *testing.T, count map[string]int, least int, outcomes ...string) {
	t.Helper()
	for _, what := range outcomes {
		if count[what] < least {
			t.Errorf("%s: %d times", what, count[what])
		}
	}
}

func longRuns(t *testing.T, plain bool, steps int, check func(r *run)) map[string]int {
	count := map[string]int{}
	for _, limit := range []int{0, 13, 20, 60, 300, 3000, api.MaxLimit} {
		for seed := range 8 {
			r := goes(t, limit, int64(1000*limit+seed), plain, count)
			r.hello(r.r.Intn(4), r.someEvents()...)
			for i := range steps {
				r.step(i > 3*steps/4)
				if i%25 == 0 {
					check(r)
				}
			}
			r.wantWhole()
			check(r)
		}
	}
	return count
}

func TestC14LongRuns(t *testing.T) {
	count := longRuns(t, false, 600, (*run).wantWord)
	wantOutcomes(t, count, 5, "notify, told", "notify, nothing", "notify, closed already",
		"output, told", "output, pauses", "output, nothing", "output, closed already", "block, told", "block, closes", "block, closed already",
		"pause, pauses", "continue, told", "continue, nothing", "late, pauses", "late, nothing", "tell, told", "tell, nothing", "go, told", "go, nothing", "exit, closes")
}

func TestC14ShortRuns(t *testing.T) {
	count := map[string]int{}
	for seed := range 3000 {
		r := goes(t, []int{0, 13, 14, 40, 300, 1000}[seed%6], int64(seed), false, count)
		if seed%2 == 0 {
			r.hello(r.r.Intn(4), r.someEvents()...)
		}
		for range 1 + r.r.Intn(40) {
			r.step(true)
		}
		r.wantWord()
		r.wantWhole()
		r.wantNumbers()
	}
	wantOutcomes(t, count, 10, "block, closes", "exit, closes", "output, pauses", "output, told", "late, pauses")
}

// Nobody drains: queues are full to the byte, and every call may be the one that closes.
func TestC14FullQueues(t *testing.T) {
	count := map[string]int{}
	for seed := range 400 {
		limit := []int{0, 25, 1000}[seed%3]
		r := goes(t, limit, int64(seed), false, count)
		for r.m.size() < limit+api.Spare-2000 {
			r.notify(message(1000))
		}
		for i := 0; !r.c.Closed(); i++ {
			what := []string{"block", "go", "pause", "continue", "output"}[r.r.Intn(5)]
			pane := 1 + r.r.Intn(4)
			switch what {
			case "block":
				r.block(i, true, r.text(10))
			case "go":
				r.goTo(pane, "name")
			case "pause":
				r.pause(pane, i)
			case "continue":
				r.goOn(pane, i)
			case "output":
				r.output(pane, i, i, "x")
			}
			if r.c.Closed() {
				r.count[what]++
			}
		}
		if size := r.c.Peer(1).Size; !r.c.Closed() || size > limit+api.Spare+len(behindLine)+1 || size < limit+api.Spare-60 {
			t.Fatalf("closed %v, size %d, limit %d", r.c.Closed(), size, limit)
		}
		everyCall(r.pair)
		r.wantWhole()
		r.wantNumbers()
	}
	wantOutcomes(t, count, 5, "block", "go", "pause", "continue", "output")
}

func TestC15LongRuns(t *testing.T) {
	longRuns(t, false, 600, func(r *run) { r.wantNumbers() })
}

// Blocks and notifications, each with a number of its own, come in the order of the calls.
func TestC15Order(t *testing.T) {
	for seed := range 100 {
		p := paired(t, 500)
		r := rand.New(rand.NewSource(int64(seed)))
		p.hello(0, api.Event{Kind: api.EvMessage, Text: "#0"})
		n := 1
		for ; n < 200; n++ {
			mark := fmt.Sprintf("#%d", n)
			switch r.Intn(5) {
			case 0:
				p.block(n, n%2 == 0, mark)
			case 1:
				p.notify(api.Event{Kind: api.EvMessage, Text: mark})
			case 2:
				p.watch(fmt.Sprint("w", n%8), "", "")
				p.tell(fmt.Sprint("w", n%8), api.Event{Kind: api.EvMessage, Text: mark})
			case 3:
				p.goTo(1, mark)
			case 4:
				p.pause(n, n)
				p.notify(api.Event{Kind: api.EvMessage, Text: mark})
			}
			p.output(n, n, n, "x")
			p.drain(r.Intn(300))
		}
		p.drain(math.MaxInt)
		marks := regexp.MustCompile(`#\d+`).FindAllString(p.told.String(), -1)
		if len(marks) != n {
			t.Fatalf("%d marks of %d", len(marks), n)
		}
		for i, mark := range marks {
			if mark != fmt.Sprintf("#%d", i) {
				t.Fatalf("the %d. mark is %s", i, mark)
			}
		}
	}
}

// The last line joins, however full the queue is; nothing does behind it.
func TestC16LastLine(t *testing.T) {
	for _, limit := range []int{0, 100, api.MaxLimit} {
		reason := strings.Repeat("\n", api.MaxText)
		for _, line := range []string{reason, "detached", ""} {
			p := filled(t, limit, limit+api.Spare)
			p.exit(line)
			want := limit + api.Spare + len("%exit") + 1
			if line != "" {
				want += 1 + len(escaped(line))
			}
			if size := p.c.Peer(1).Size; size != want {
				t.Errorf("limit %d: size %d, want %d", limit, size, want)
			}
			everyCall(p)
		}
		p := filled(t, limit, limit+api.Spare)
		p.notify(message(10))
		if size := p.c.Peer(1).Size; size != limit+api.Spare+len(behindLine)+1 {
			t.Errorf("limit %d: size %d", limit, size)
		}
	}
}

// Output joins up to the limit to the byte, and not beyond it.
func TestC16OutputUpToTheLimit(t *testing.T) {
	const around = len("%output %1 \n")
	for _, limit := range []int{0, 12, 13, 14, 100, 1000, api.MaxLimit} {
		for _, beyond := range []int{0, 1} {
			p := paired(t, limit)
			for left := limit; left >= around+256; left = limit - p.m.size() {
				p.output(1, 0, 0, strings.Repeat("o", 256))
			}
			ahead := p.m.size()
			p.output(1, 0, 0, strings.Repeat("o", max(1, limit-ahead-around+beyond)))
			fits := limit > around && beyond == 0
			if peer := p.c.Peer(1); fits && peer.Size != limit || fits != (len(peer.Paused) == 0) {
				t.Errorf("limit %d, %d bytes more: %+v", limit, beyond, peer)
			}
		}
	}
}

func TestC16LongRuns(t *testing.T) {
	// wantBounds looks behind each step
	count := longRuns(t, true, 400, func(r *run) {})
	wantOutcomes(t, count, 20, "output, told", "output, pauses")
}

func TestC17LongRuns(t *testing.T) {
	count := longRuns(t, true, 600, (*run).wantPauses)
	wantOutcomes(t, count, 20, "output is drained", "output, pauses", "pause, pauses", "continue, told", "paused at the end: 0", "paused at the end: 2", "paused at the end: 4")
}

// A pane's bytes come in their order, those of a pause are left out.
func TestC17Bytes(t *testing.T) {
	for seed := range 200 {
		r := rand.New(rand.NewSource(int64(seed)))
		p := paired(t, 200)
		var want strings.Builder
		offset := 0
		for i := range 200 {
			data := strings.Repeat(string(rune('a'+i%26)), 1+r.Intn(40))
			paused := len(p.m.paused) == 1
			room := p.m.size()+len("%output %1 \n")+len(data) <= 200
			p.output(1, i, offset, data)
			if !paused && room {
				want.WriteString(data)
			}
			if len(p.c.Peer(1).Paused) == 1 != (paused || !room) {
				t.Fatalf("room %v, was paused %v: %+v", room, paused, p.c.Peer(1))
			}
			offset += len(data)
			p.drain(r.Intn(60))
			if r.Intn(5) == 0 {
				p.goOn(1, offset)
			}
		}
		p.drain(math.MaxInt)
		var got strings.Builder
		for line := range strings.SplitSeq(p.told.String(), "\n") {
			data, _ := strings.CutPrefix(line, "%output %1 ")
			if data != line {
				got.WriteString(data)
			}
		}
		if got.String() != want.String() {
			t.Fatalf("told %q, want %q", got.String(), want.String())
		}
	}
}
