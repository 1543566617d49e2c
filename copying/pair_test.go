package copying

import (
	"fmt"
	"slices"
	"strings"
	"testing"

	"mullion/api"
)

// pair is a look back and the model beside it: every command is done on both.
type pair struct {
	t      testing.TB
	mode   *Mode
	page   *page
	story  []string
	faults *int
}

// wrong tells of the first few faults: many would say the same.
func (p *pair) wrong(format string, args ...any) {
	p.t.Helper()
	if *p.faults++; *p.faults <= 6 {
		text := fmt.Sprintf("%dx%d over %q", p.page.w, p.page.h, p.page.flat)
		if len(text) > 300 {
			text = text[:300] + ".."
		}
		p.t.Errorf("%s\n%s: %s", fmt.Sprintf(format, args...), text, strings.Join(p.story[max(0, len(p.story)-30):], ", "))
	}
}

// begun is a new look back; a test that has failed makes no more of them.
func begun(t testing.TB, w, h int, lines ...string) *pair {
	t.Helper()
	if t.Failed() {
		t.FailNow()
	}
	m, err := New(lines, w, h)
	if m == nil || err != api.OK {
		t.Fatalf("New(%d lines, %d, %d) answers %d", len(lines), w, h, err)
	}
	p := &pair{t: t, mode: m, page: newPage(lines, w, h), faults: new(int)}
	return p.look()
}

// forked is the same look back once more, to be asked what shows only later.
func (p *pair) forked() *pair {
	m := *p.mode
	return &pair{t: p.t, mode: &m, page: p.page.forked(), story: slices.Clip(p.story), faults: p.faults}
}

// do does commands on both; none of them is refused.
func (p *pair) do(commands ...string) *pair {
	p.t.Helper()
	for _, command := range commands {
		p.answers(command, api.OK)
	}
	return p
}

// answers does a command of which the test itself says what it answers.
func (p *pair) answers(command string, want api.Errno) *pair {
	p.t.Helper()
	if got := p.made(command); got != want {
		p.wrong("%.60q answers %d, and not %d", command, got, want)
	}
	return p
}

// made does a command on both, and looks at what can be seen behind it but for the picture.
func (p *pair) made(command string) api.Errno {
	p.t.Helper()
	p.story = append(p.story, fmt.Sprintf("%.60s", command))
	got, want := p.mode.Do(command), p.page.do(command)
	if got != want {
		p.wrong("%.60q answers %d, the model %d", command, got, want)
	}
	p.look()
	return got
}

// look asks for all that can be asked for but the picture.
func (p *pair) look() *pair {
	p.t.Helper()
	line, letters := p.mode.Place()
	wantLine, wantLetters := p.page.lineOf(p.page.cursor), p.page.lettersOf(p.page.cursor)
	if line != wantLine || letters != wantLetters {
		p.wrong("Place is %d, %d, and not %d, %d", line, letters, wantLine, wantLetters)
	}
	if got := p.mode.Top(); got != p.page.top {
		p.wrong("Top is %d, and not %d", got, p.page.top)
	}
	line, letters, marked := p.mode.Mark()
	wantLine, wantLetters = 0, 0
	if p.page.mark >= 0 {
		wantLine, wantLetters = p.page.lineOf(p.page.mark), p.page.lettersOf(p.page.mark)
	}
	if line != wantLine || letters != wantLetters || marked != (p.page.mark >= 0) {
		p.wrong("Mark is %d, %d, %v, and not %d, %d, %v", line, letters, marked, wantLine, wantLetters, p.page.mark >= 0)
	}
	if got := p.mode.Rectangle(); got != p.page.rectangle {
		p.wrong("Rectangle is %v", got)
	}
	text, ok := p.mode.Selection()
	if want, is := p.page.selection(); text != want || ok != is {
		p.wrong("Selection is %q, %v, and not %q, %v", text, ok, want, is)
	}
	return p
}

// drawn is a picture as a text: its rows, each letter of the selection between brackets.
func drawn(p api.Picture) string {
	text := fmt.Sprintf("%dx%d cursor %d,%d %v %q", p.W, p.H, p.X, p.Y, p.Hidden, p.Title)
	for i, g := range p.Places {
		if p.W > 0 && i%p.W == 0 {
			text += "\n|"
		}
		if g.Attr != (api.Attr{}) {
			text += fmt.Sprintf("[%s %d %v]", g.Text, g.Width, g.Attr)
		} else {
			text += fmt.Sprintf("(%s %d)", g.Text, g.Width)
		}
	}
	return text
}

func samePicture(a, b api.Picture) bool {
	places := slices.Equal(a.Places, b.Places)
	a.Places, b.Places = nil, nil
	return places && fmt.Sprint(a) == fmt.Sprint(b)
}

func (p *pair) lookPicture() *pair {
	p.t.Helper()
	if got, want := p.mode.Picture(), p.page.picture(); !samePicture(got, want) {
		p.wrong("Picture is %s\nand not %s", drawn(got), drawn(want))
	}
	return p
}

// probes bring to light what is kept and not told: the column wished for, the TEXT, the LETTER and their directions.
var probes = [][]string{
	{"cursor-up", "cursor-up", "cursor-down", "cursor-down", "cursor-down"}, {"page-up", "page-down", "page-down"},
	{"search-again"}, {"search-reverse"}, {"jump-again"}, {"jump-reverse"}, {"start-of-line", "jump-again"}, {"end-of-line", "jump-again"},
}

func (p *pair) probe() *pair {
	p.t.Helper()
	for _, commands := range probes {
		f := p.forked()
		for _, command := range commands {
			f.made(command)
		}
	}
	return p.lookPicture()
}

// at is where the cursor stands and the view begins, as the test itself says.
func (p *pair) at(line, letters, top int) *pair {
	p.t.Helper()
	if l, c := p.mode.Place(); l != line || c != letters || p.mode.Top() != top {
		p.wrong("at %d, %d, the view from %d on, and not %d, %d, from %d", l, c, p.mode.Top(), line, letters, top)
	}
	return p
}

// wishes is the column wished for, as the test itself says: the last line has to be long enough to show it.
func (p *pair) wishes(letters int) *pair {
	p.t.Helper()
	f := p.forked()
	for range f.page.lines() {
		f.do("cursor-down")
	}
	if _, got := f.mode.Place(); got != letters {
		p.wrong("the column wished for is %d, and not %d", got, letters)
	}
	return p
}

// marks is the mark, as the test itself says; none: no numbers.
func (p *pair) marks(want ...int) *pair {
	p.t.Helper()
	line, letters, is := p.mode.Mark()
	if len(want) == 0 && (is || line != 0 || letters != 0) || len(want) == 2 && (!is || line != want[0] || letters != want[1]) {
		p.wrong("the mark is %d, %d, %v, and not %v", line, letters, is, want)
	}
	return p
}

// selects is the selection, as the test itself says.
func (p *pair) selects(want string) *pair {
	p.t.Helper()
	if got, is := p.mode.Selection(); got != want || !is {
		p.wrong("Selection is %q, %v, and not %q", got, is, want)
	}
	return p
}

func (p *pair) selectsNothing() *pair {
	p.t.Helper()
	if got, is := p.mode.Selection(); got != "" || is {
		p.wrong("Selection is %q, %v, and nothing is marked", got, is)
	}
	return p
}

// goes leads the cursor to a place from the beginning of the text on, whatever it wished for.
func (p *pair) goes(line, letters int) *pair {
	p.t.Helper()
	p.do(fmt.Sprintf("goto-line %d", line))
	for range letters {
		p.do("cursor-right")
	}
	if l, c := p.mode.Place(); l != line || c != letters {
		p.wrong("at %d, %d, and not at %d, %d", l, c, line, letters)
	}
	return p
}
