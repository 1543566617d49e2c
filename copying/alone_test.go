package copying

import (
	"math"
	"runtime"
	"slices"
	"strconv"
	"strings"
	"sync"
	"testing"
	"unsafe"

	"mullion/api"
)

// Every call ends at all arguments, also at such that make no sense.
func TestRule1AnyArguments(t *testing.T) {
	texts := []string{"", " ", "a", "\x00", "\xff\xfe", "\n", "\u0301", "4611686018427387904", "-1", strings.Repeat("x", 1<<12), strings.Repeat("9", 1<<12), strings.Repeat("\xf0\x9f", 1<<10), strings.Repeat(" ", 1<<12)}
	for _, lines := range [][]string{nil, {""}, texts, {strings.Repeat("a\xff\u4e00\u0301", 40)}} {
		p := begun(t, 3, 2, lines...)
		for _, name := range append(names(), "", "no-command") {
			for _, text := range texts {
				p.mode.Do(text)
				p.mode.Do(name + " " + text)
				p.mode.Do(name + text)
				p.mode.Do(name)
				p.mode.Picture()
			}
		}
	}
	for _, n := range []int{math.MinInt, -1, 0, 1, 1000, 1001, math.MaxInt} {
		New(nil, n, 1)
		New(texts, 1, n)
	}
}

// Texts in which much is alike are searched without looking at their letters again and again; many lines and long ones are gone through.
func TestRule1LargeTexts(t *testing.T) {
	const many = 1 << 19
	alike := strings.Repeat("a", 2*many)
	for _, text := range []string{strings.Repeat("a", many) + "b", "b" + strings.Repeat("a", many), strings.Repeat("a", many), strings.Repeat("ab", many/2)} {
		m, _ := New([]string{alike, "", alike}, 80, 24)
		want := api.ErrTarget
		if !strings.Contains(text, "b") {
			want = api.OK
		}
		for _, command := range []string{"search-forward " + text, "search-again", "search-reverse", "search-backward " + text, "search-again", "search-reverse"} {
			if err := m.Do(command); err != want {
				t.Errorf("%.20s.. answers %d, and not %d", command, err, want)
			}
		}
	}
	m, _ := New(slices.Repeat([]string{"", "a"}, many/2), 80, 24)
	for _, command := range []string{"history-top", "next-word-end", "search-forward b", "search-backward b", "begin-selection", "next-word", "history-bottom", "previous-word", "page-up", "history-top", "search-backward a", "select-line"} {
		m.Do(command)
		m.Picture()
	}
	if line, letters := m.Place(); line != many-1 || letters != 1 {
		t.Errorf("at %d, %d", line, letters)
	}
	m, _ = New([]string{strings.Repeat("-", 2*many)}, 80, 24)
	for _, command := range []string{"next-word", "previous-word", "next-paragraph", "previous-paragraph", "jump-forward x", "end-of-line", "jump-backward x", "back-to-indentation", "cursor-right", "begin-selection", "end-of-line"} {
		m.Do(command)
	}
	if text, _ := m.Selection(); len(text) != 2*many-1 || m.Picture().X != 79 {
		t.Errorf("%d letters are selected", len(text))
	}
}

// What is asked for and what is sought leaves nothing behind: of the searches the last one is kept alone.
func TestRule1NothingGrows(t *testing.T) {
	m, _ := New([]string{"abc", "", "def"}, 80, 24)
	for i := range 20000 {
		m.Do("search-forward " + strconv.Itoa(i))
		m.Do("jump-forward x")
		m.Do(names()[i%38])
	}
	if len(m.search.letters) > 5 || cap(m.search.letters) > 64 || len(m.text) != 3 {
		t.Errorf("%d letters are kept, of %d lines", cap(m.search.letters), len(m.text))
	}
}

// What is handed in stays as it was, spare room too.
func TestRule3ArgumentsStay(t *testing.T) {
	for seed := range 50 {
		d := dealt(30000 + seed)
		lines := append(d.lines(), "spare", "room")
		kept := slices.Clone(lines)
		p := begun(t, 5, 3, lines[:len(lines)-2]...).chance(d, 30)
		p.probe()
		if !slices.Equal(lines, kept) {
			t.Errorf("%q has become %q", kept, lines)
		}
	}
}

// loose is a text in memory that is written over later.
func loose(text string) (string, func()) {
	memory := []byte(text)
	return unsafe.String(unsafe.SliceData(memory), len(memory)), func() {
		for i := range memory {
			memory[i] = '!'
		}
	}
}

// The lines that were handed in, and each command, are written over behind the call: what is kept, and what was told, was copied.
func TestRule3NothingHandedInIsKept(t *testing.T) {
	for seed := range 100 {
		d := dealt(31000 + seed)
		lines := d.lines()
		loosened, spoil := make([]string, len(lines)), make([]func(), len(lines))
		for i, line := range lines {
			loosened[i], spoil[i] = loose(line)
		}
		m, _ := New(loosened, 7, 3)
		for i := range lines {
			spoil[i]()
			loosened[i] = "spoilt"
		}
		p := begun(t, 7, 3, lines...)
		p.mode = m
		p.look()
		for range 40 {
			command := d.command()
			given, spoil := loose(command)
			err := p.mode.Do(given)
			if given != command {
				t.Fatalf("%q has been changed", command)
			}
			spoil()
			if want := p.page.do(command); err != want {
				t.Fatalf("%q answers %d, and not %d", command, err, want)
			}
			if p.look().probe(); t.Failed() {
				return
			}
		}
	}
}

// What is answered may be written over, spare room too: the look back goes on as it would.
func TestRule3AnswersAreTheirCallers(t *testing.T) {
	want := names()
	slices.Sort(want)
	for seed := range 30 {
		d := dealt(32000 + seed)
		p := begun(t, 6, 3, d.lines()...)
		for range 30 {
			shown := p.mode.Picture()
			for i := range shown.Places[:cap(shown.Places)] {
				shown.Places[:cap(shown.Places)][i] = api.Glyph{Text: "spoilt", Width: 7}
			}
			list := Commands()
			for i := range list[:cap(list)] {
				list[:cap(list)][i] = "spoilt"
			}
			if !slices.Equal(Commands(), want) {
				t.Fatal("the names that were told are kept")
			}
			p.lookPicture().chance(d, 1).lookPicture()
		}
	}
}

// What was answered stays as it was, whatever comes.
func TestRule3AnswersStay(t *testing.T) {
	d := dealt(33000)
	p := begun(t, 8, 4, "ab cd", "", "\u4e00x", "  y", "z")
	var same []func() bool
	for range 300 {
		p.chance(d, 1)
		shown, list := p.mode.Picture(), Commands()
		text, _ := p.mode.Selection()
		kept, keptText := p.page.picture(), strings.Clone(text)
		same = append(same, func() bool {
			return samePicture(shown, kept) && text == keptText && len(list) == 38 && slices.IsSorted(list)
		})
	}
	for n, is := range same {
		if !is() {
			t.Errorf("answer %d has changed", n)
		}
	}
}

// stretch is some memory.
type stretch struct{ from, behind uintptr }

func placesStretch(p api.Picture) stretch {
	from := uintptr(unsafe.Pointer(unsafe.SliceData(p.Places)))
	return stretch{from, from + uintptr(cap(p.Places))*unsafe.Sizeof(api.Glyph{})}
}

func namesStretch(list []string) stretch {
	from := uintptr(unsafe.Pointer(unsafe.SliceData(list)))
	return stretch{from, from + uintptr(cap(list))*unsafe.Sizeof("")}
}

func lettersStretch(letters []rune) stretch {
	from := uintptr(unsafe.Pointer(unsafe.SliceData(letters)))
	return stretch{from, from + uintptr(cap(letters))*unsafe.Sizeof('a')}
}

func textStretch(text string) stretch {
	from := uintptr(unsafe.Pointer(unsafe.StringData(text)))
	return stretch{from, from + uintptr(len(text))}
}

func wantApart(t *testing.T, all []stretch) {
	t.Helper()
	for i, x := range all {
		for j, y := range all[:i] {
			if x.from < y.behind && y.from < x.behind {
				t.Errorf("the parts %d and %d share memory", j, i)
			}
		}
	}
}

// Nothing that is handed in, kept or told shares memory with anything else of it.
func TestRule3AnswersAreNewMemory(t *testing.T) {
	line := strings.Clone("one line of \u4e00 letters")
	lines := []string{line, line, line}
	var parts []stretch
	var alive []any
	add := func(s stretch, thing any) { parts, alive = append(parts, s), append(alive, thing) }
	add(textStretch(line), line)
	for range 2 {
		m, _ := New(lines, 20, 3)
		for _, letters := range m.text {
			add(lettersStretch(letters), letters)
		}
		sought := strings.Clone("search-forward line")
		m.Do(sought)
		m.Do("begin-selection")
		m.Do("end-of-line")
		add(textStretch(sought), sought)
		add(lettersStretch(m.search.letters), m)
		for range 2 {
			shown, list := m.Picture(), Commands()
			text, _ := m.Selection()
			add(placesStretch(shown), shown)
			add(namesStretch(list), list)
			add(textStretch(text), text)
		}
	}
	wantApart(t, parts)
	runtime.KeepAlive(alive)
}

// Two looks back over one list of lines, used in turns, do not know of one another.
func TestRule4TwoInTurns(t *testing.T) {
	for seed := range 20 {
		da, db := dealt(40000+seed), dealt(41000+seed)
		lines := dealt(42000 + seed).lines()
		a, b := begun(t, 5, 3, lines...), begun(t, 9, 2, lines...)
		for range 60 {
			a.chance(da, 1)
			b.look().chance(db, 2)
			a.look()
		}
		a.probe()
		b.probe()
	}
}

// What is asked in between, and called on others, makes no difference.
func TestRule4SameCallsSameAnswers(t *testing.T) {
	for seed := range 20 {
		d := dealt(43000 + seed)
		lines := d.lines()
		a, _ := New(lines, 6, 3)
		b, _ := New(lines, 6, 3)
		other, _ := New([]string{"x y", "", "z"}, 6, 3)
		for range 100 {
			command := d.command()
			errA := a.Do(command)
			other.Do(command)
			other.Do("search-forward z")
			a.Picture()
			a.Selection()
			Commands()
			if errB := b.Do(command); errA != errB || seen(a) != seen(b) {
				t.Fatalf("%q answers %d and %d, %s and %s", command, errA, errB, seen(a), seen(b))
			}
		}
		if !samePicture(a.Picture(), b.Picture()) {
			t.Error("the pictures differ")
		}
	}
}

// Many at once, from many goroutines, over one list of lines, tell what each tells alone.
func TestRule4ManyAtOnce(t *testing.T) {
	lines := []string{"ab cd", "", "\u4e00x", "  y", "z"}
	var work sync.WaitGroup
	for worker := range 8 {
		p, d := begun(t, 6, 3, lines...), dealt(44000+worker%2)
		work.Go(func() {
			for range 150 {
				p.chance(d, 1).lookPicture()
				Commands()
			}
			p.probe()
		})
	}
	work.Wait()
}
