package house

import (
	"fmt"
	"regexp"
	"slices"
	"strconv"
	"strings"
	"sync"
	"testing"

	"mullion/api"
)

// times is how often something is tried: a tenth, where little time is left.
func times(n int) int {
	if testing.Short() {
		return n / 10
	}
	return n
}

// tally gathers counts of runs that go side by side.
type tally struct {
	sync.Mutex
	times map[string]int
}

func (n *tally) add(count map[string]int) {
	n.Lock()
	defer n.Unlock()
	for key, times := range count {
		n.times[key] += times
	}
}

// want asks that each of these was met so often.
func (n *tally) want(t *testing.T, least int, keys ...string) {
	t.Helper()
	for _, key := range keys {
		if n.times[key] < least && !testing.Short() {
			t.Errorf("only %d times in all runs: %s", n.times[key], key)
		}
	}
}

// inRuns makes runs side by side; they have ended when it has.
func inRuns(t *testing.T, runs int, play func(t *testing.T, seed int64) map[string]int) *tally {
	t.Helper()
	runs = times(runs)
	all := &tally{times: map[string]int{}}
	t.Run("runs", func(t *testing.T) {
		for seed := range runs {
			t.Run(fmt.Sprint(seed), func(t *testing.T) {
				t.Parallel()
				all.add(play(t, int64(seed)))
			})
		}
	})
	return all
}

// page is the lines of a client in a text of Play.
type page struct {
	client, entry int
	lines         []string
}

func (p page) verdict() string { return strings.TrimSpace(p.lines[len(p.lines)-1]) }

// told is a text of Play, taken apart by its lines alone.
type told struct {
	steps  []string
	server []string
	pages  []page
}

var pageHead = regexp.MustCompile(`^client (\d+) from entry (\d+)$`)

func number(text string) int {
	n, _ := strconv.Atoi(text)
	return n
}

func takeApart(t *testing.T, text string) told {
	t.Helper()
	if !strings.HasSuffix(text, "\n") {
		t.Fatalf("the last line does not end: %q", text)
	}
	var o told
	for _, line := range strings.Split(strings.TrimSuffix(text, "\n"), "\n") {
		head := pageHead.FindStringSubmatch(line)
		switch last := len(o.pages) - 1; {
		case head != nil:
			o.pages = append(o.pages, page{client: number(head[1]), entry: number(head[2])})
		case last >= 0:
			o.pages[last].lines = append(o.pages[last].lines, line)
		case len(o.server) > 0 || strings.HasPrefix(line, "server, "):
			o.server = append(o.server, line)
		default:
			o.steps = append(o.steps, line)
		}
	}
	return o
}

// those are the lines that begin so.
func those(lines []string, head string) []string {
	var l []string
	for _, line := range lines {
		if strings.HasPrefix(line, head) {
			l = append(l, line)
		}
	}
	return l
}

var before = regexp.MustCompile(`( last )(%?\d+)( links| zoomed | whole )`)

// withoutLast is lines of a state without what was current or active ahead.
func withoutLast(lines []string) string {
	return before.ReplaceAllString(strings.Join(lines, "\n"), "$1-$3")
}

func stateLines(lines []string) []string {
	return append(those(lines, "  session "), those(lines, "  window ")...)
}

// wantTrue is P18.6, and of the clients that agree P8, read from the text.
func (o told) wantTrue(t *testing.T) {
	t.Helper()
	for _, p := range o.pages {
		if v := p.verdict(); v != "agrees" && v != "behind" && v != "gone" || len(those(p.lines, "  broken")) > 0 {
			t.Fatalf("client %d from entry %d: %q", p.client, p.entry, p.lines)
		}
		if p.verdict() == "agrees" {
			if got, want := withoutLast(stateLines(p.lines)), withoutLast(stateLines(o.server)); got != want {
				t.Fatalf("client %d from entry %d agrees, and knows\n%s\nand not\n%s", p.client, p.entry, got, want)
			}
			if got, want := len(those(p.lines, "  feed ")), len(those(o.server, "  pane ")); got != want || len(those(p.lines, "  rest ")) > 0 || len(those(p.lines, "  ended ")) > 0 {
				t.Fatalf("client %d from entry %d agrees, and has %d feeds of %d panes: %q", p.client, p.entry, got, want, p.lines)
			}
		}
	}
}

var feedLine = regexp.MustCompile(`(?s)^  feed %(\d+) (\d+)\.\.(\d+)( paused)?((?: gap \d+\.\.\d+)*) bytes (.*)$`)
var gapPart = regexp.MustCompile(` gap (\d+)\.\.(\d+)`)

func feedOf(t *testing.T, line string) api.Feed {
	t.Helper()
	found := feedLine.FindStringSubmatch(line)
	if found == nil {
		t.Fatalf("no line of a feed: %q", line)
	}
	f := api.Feed{Pane: number(found[1]), Start: number(found[2]), End: number(found[3]), Paused: found[4] != "", Text: plain(found[6])}
	for _, gap := range gapPart.FindAllStringSubmatch(found[5], -1) {
		f.Gaps = append(f.Gaps, api.Gap{From: number(gap[1]), To: number(gap[2])})
	}
	return f
}

// outputs is what was written into each pane by the entries ahead of one, as far as they were taken.
func (o told) outputs(l []api.Entry, ahead int) map[int]string {
	written := map[int]string{}
	for i, e := range l[:ahead] {
		if e.Kind == api.InOutput && strings.HasSuffix(o.steps[i], ": ok") {
			written[e.Pane] += e.Text
		}
	}
	return written
}

// without is a stretch of a text without some gaps; false: they are not gaps of it.
func without(text string, from, to int, gaps []api.Gap) (string, bool) {
	var b strings.Builder
	for i, gap := range gaps {
		if gap.From < from || i > 0 && gap.From == from || gap.To <= gap.From || gap.To > to {
			return "", false
		}
		b.WriteString(text[from:gap.From])
		from = gap.To
	}
	if from > to || to > len(text) {
		return "", false
	}
	return b.String() + text[from:to], true
}

// wantBytes is P18.7, with P9: each feed against what the script wrote.
func (o told) wantBytes(t *testing.T, l []api.Entry) map[string]int {
	t.Helper()
	written := o.outputs(l, len(l))
	count := map[string]int{}
	for _, p := range o.pages {
		ahead := o.outputs(l, p.entry)
		for _, line := range those(p.lines, "  feed ") {
			f := feedOf(t, line)
			if f.Start != len(ahead[f.Pane]) {
				t.Fatalf("client %d from entry %d: %d bytes were written ahead of %q", p.client, p.entry, len(ahead[f.Pane]), line)
			}
			if want, ok := without(written[f.Pane], f.Start, f.End, f.Gaps); !ok || want != f.Text {
				t.Fatalf("client %d from entry %d: %q, and not %q", p.client, p.entry, line, want)
			}
			if p.verdict() == "agrees" && !f.Paused && f.End != len(written[f.Pane]) {
				t.Fatalf("client %d from entry %d: %d bytes were written, and %q", p.client, p.entry, len(written[f.Pane]), line)
			}
			count[fmt.Sprintf("feeds, paused %v, gaps %v, bytes %v", f.Paused, len(f.Gaps) > 0, f.Text != "")]++
		}
	}
	return count
}

// haltLine is a line of the wire that lets a pane pause or go on.
var haltLine = regexp.MustCompile(`(?m)^%(pause|continue) %(\d+) (\d+)$`)

// gapsOf are the gaps that come of pauses: from each one to the going-on behind it.
func gapsOf(wire string) map[int][]api.Gap {
	gaps, open := map[int][]api.Gap{}, map[int]int{}
	for _, found := range haltLine.FindAllStringSubmatch(wire, -1) {
		pane, offset := number(found[2]), number(found[3])
		from, last := open[pane], len(gaps[pane])-1
		switch {
		case found[1] == "pause":
			open[pane] = offset
		case offset == from:
		case last >= 0 && gaps[pane][last].To == from:
			gaps[pane][last].To = offset
		default:
			gaps[pane] = append(gaps[pane], api.Gap{From: from, To: offset})
		}
	}
	return gaps
}

// wantGaps is P9 of the gaps: they come between a pause and the going-on behind it, and nowhere else.
func (o told) wantGaps(t *testing.T, c api.Config, l []api.Entry) {
	t.Helper()
	m, _ := runOf(c, l)
	if len(m.stories) != len(o.pages) {
		t.Fatalf("%d mirrors, and not %d", len(o.pages), len(m.stories))
	}
	for i, p := range o.pages {
		if y := m.stories[i]; y.client != p.client || y.entry != p.entry {
			t.Fatalf("client %d from entry %d, and not %d from %d", p.client, p.entry, y.client, y.entry)
		}
		gaps := gapsOf(m.stories[i].told)
		for _, line := range those(p.lines, "  feed ") {
			if f := feedOf(t, line); !slices.Equal(f.Gaps, gaps[f.Pane]) {
				t.Fatalf("client %d from entry %d: %q, and not the gaps %v", p.client, p.entry, line, gaps[f.Pane])
			}
		}
	}
}

// counted is how often each kind of line was met.
func (o told) counted() map[string]int {
	count := map[string]int{}
	heads := []string{"  session ", "  window ", "  feed ", "  reply ", "    | ", "  message ", "  watch ", "  rest ", "  ended detached", "  ended server exited", "  ended session closed", "  ended too far behind", "  in -", "  in $"}
	for _, p := range o.pages {
		count[p.verdict()]++
		for _, head := range heads {
			count[head] += len(those(p.lines, head))
		}
		for _, line := range p.lines {
			switch {
			case strings.HasPrefix(line, "  reply ") && strings.HasSuffix(line, " bad"):
				count["a bad reply"]++
			case strings.HasPrefix(line, "  window ") && strings.HasSuffix(line, " active - last - whole -"):
				count["a window on its way"]++
			case strings.HasPrefix(line, "  session ") && strings.HasSuffix(line, " current - last - links"):
				count["a session on its way"]++
			case strings.HasPrefix(line, "  window ") && strings.Contains(line, " zoomed "):
				count["a zoomed window"]++
			}
		}
	}
	for _, line := range those(o.server, "  pane ") {
		if !strings.HasSuffix(line, " typed ") {
			count["a pane with typed bytes"]++
		}
	}
	for _, line := range o.steps {
		switch {
		case strings.Contains(line, ": error "):
			count["an error"]++
		case strings.HasSuffix(line, " bytes"):
			count["drained bytes"]++
		}
	}
	return count
}

// Long runs: Play tells what the tests' own house tells (P18.4), no mirror differs or is broken (P18.6), and each byte is there once (P18.7).
func TestP186LongRuns(t *testing.T) {
	met := inRuns(t, 90, func(t *testing.T, seed int64) map[string]int {
		c, l := deal(seed, 300)
		text, err := Play(c, l)
		want, wantErr := played(c, l)
		if text != want || err != wantErr {
			t.Fatalf("seed %d: error %d, and not %d:\n%s", seed, err, wantErr, differing(text, want))
		}
		o := takeApart(t, text)
		if len(o.steps) != len(l) {
			t.Fatalf("%d entries, and %d lines of them", len(l), len(o.steps))
		}
		o.wantTrue(t)
		o.wantGaps(t, c, l)
		count := o.counted()
		for key, n := range o.wantBytes(t, l) {
			count[key] += n
		}
		return count
	})
	met.want(t, 50, "agrees", "behind", "gone", "  session ", "  window ", "  feed ", "  reply ", "    | ", "  message ", "  watch ", "  rest ", "  in -", "  in $",
		"a bad reply", "a zoomed window", "a pane with typed bytes", "an error", "drained bytes")
	met.want(t, 5, "  ended detached", "  ended server exited", "  ended session closed", "  ended too far behind", "a window on its way", "a session on its way")
	met.want(t, 5, "feeds, paused false, gaps false, bytes false", "feeds, paused false, gaps false, bytes true", "feeds, paused false, gaps true, bytes true", "feeds, paused true, gaps false, bytes false",
		"feeds, paused true, gaps false, bytes true", "feeds, paused true, gaps true, bytes true", "feeds, paused true, gaps true, bytes false", "feeds, paused false, gaps true, bytes false")
}

// differing is the first line in which two texts differ.
func differing(got, want string) string {
	g, w := strings.Split(got, "\n"), strings.Split(want, "\n")
	for i := range min(len(g), len(w)) {
		if g[i] != w[i] {
			return fmt.Sprintf("line %d: %q, and not %q", i+1, g[i], w[i])
		}
	}
	return fmt.Sprintf("%d lines, and not %d", len(g), len(w))
}

// Each beginning of a run: a mirror that agrees now and differs an entry later would be seen.
func TestP186EachBeginning(t *testing.T) {
	met := inRuns(t, 9, func(t *testing.T, seed int64) map[string]int {
		c, l := deal(5000+seed, 70)
		count := map[string]int{}
		for n := range len(l) + 1 {
			text, err := Play(c, l[:n])
			if want, _ := played(c, l[:n]); err != api.OK || text != want {
				t.Fatalf("the first %d entries: error %d, %s", n, err, differing(text, want))
			}
			o := takeApart(t, text)
			o.wantTrue(t)
			o.wantBytes(t, l[:n])
			for _, p := range o.pages {
				count[p.verdict()]++
			}
		}
		return count
	})
	met.want(t, 100, "agrees", "behind", "gone")
}

// As many entries as may be, with clients that come and go.
func TestP186MostEntries(t *testing.T) {
	c, l := deal(7001, api.MaxEntries)
	text, err := Play(c, l)
	if err != api.OK {
		t.Fatalf("error %d", err)
	}
	o := takeApart(t, text)
	o.wantTrue(t)
	o.wantBytes(t, l)
	if want, _ := played(c, l); text != want {
		t.Error(differing(text, want))
	}
	if text, err := Play(c, append(l, api.Entry{Kind: api.InTick})); text != "" || err != api.ErrFull {
		t.Errorf("one entry more: %d bytes, error %d", len(text), err)
	}
	l = slices.Repeat([]api.Entry{{Kind: api.InAttach, Client: 1, N: 9}, {Kind: api.InDetach, Client: 1}}, api.MaxEntries/2)
	text, err = Play(config, l)
	if o := takeApart(t, text); err != api.OK || len(o.pages) != api.MaxEntries/2 || o.counted()["gone"] != api.MaxEntries/2 {
		t.Errorf("%d mirrors, error %d", len(o.pages), err)
	}
}

// A client that takes all behind each entry, and is never paused: it has each byte, and no gap.
func TestP187NeverPaused(t *testing.T) {
	d := &dealer{Rand: newAuthor(9).Rand}
	l := []api.Entry{{Kind: api.InAttach, Client: 1, N: api.MaxLimit}, {Kind: api.InInput, Client: 1, Text: "new\nsplitw\n"}}
	for range 600 {
		l = append(l, api.Entry{Kind: api.InOutput, Pane: 1 + d.Intn(2), Text: d.bytes()}, api.Entry{Kind: api.InDrain, Client: 1, N: 1 << 20})
	}
	text, err := Play(config, l)
	o := takeApart(t, text)
	if o.wantTrue(t); err != api.OK || len(o.pages) != 1 || o.pages[0].verdict() != "agrees" {
		t.Fatalf("error %d: %v", err, o.pages)
	}
	written := o.outputs(l, len(l))
	feeds := those(o.pages[0].lines, "  feed ")
	for i, line := range feeds {
		if f := feedOf(t, line); f.Pane != i+1 || f.Start != 0 || f.Paused || f.Gaps != nil || f.Text != written[f.Pane] || f.End != len(f.Text) {
			t.Errorf("%.300q", line)
		}
	}
	if len(feeds) != 2 || len(written[1]) < 1000 {
		t.Errorf("%d feeds, %d bytes", len(feeds), len(written[1]))
	}
}

// All bytes there are, through a pane to a feed.
func TestP187AllBytes(t *testing.T) {
	all := make([]byte, 256)
	for i := range all {
		all[i] = byte(i)
	}
	text := strings.Repeat(string(all), 3)
	got, _ := Play(api.Config{W: 80, H: 24, Tail: 65536}, []api.Entry{{Kind: api.InAttach, Client: 1, N: api.MaxLimit}, {Kind: api.InInput, Client: 1, Text: "new\n"},
		{Kind: api.InOutput, Pane: 1, Text: text}, {Kind: api.InDrain, Client: 1, N: 99999}})
	if line := "\n  feed %1 0..768 bytes " + escaped(text) + "\n"; !strings.Contains(got, line) || !strings.Contains(got, "\n  agrees\n") {
		t.Errorf("%q has no line %q", got, line)
	}
}
