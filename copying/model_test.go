package copying

import (
	"regexp"
	"slices"
	"strconv"
	"strings"
	"unicode/utf8"

	"mullion/api"
	"mullion/vt"
)

// orders are the commands of the chapter's table, in its order; those that take an argument have its name behind them.
const orders = `cursor-left cursor-right cursor-up cursor-down start-of-line end-of-line back-to-indentation history-top history-bottom
top-line middle-line bottom-line page-up page-down halfpage-up halfpage-down scroll-up scroll-down next-word next-word-end previous-word
next-paragraph previous-paragraph goto-line=N search-forward=TEXT search-backward=TEXT search-again search-reverse
jump-forward=LETTER jump-backward=LETTER jump-again jump-reverse begin-selection clear-selection other-end rectangle-toggle select-line select-word`

var (
	orderForm  = regexp.MustCompile(`(?s)^([^ ]*)(?:( )(.*))?$`)
	numberForm = regexp.MustCompile(`^(0|[1-9][0-9]{0,18})$`)
	wordForm   = regexp.MustCompile(`[A-Za-z0-9_\x{80}-\x{10ffff}]+`)
	bareForm   = regexp.MustCompile(`(?m)^$`)
	indentForm = regexp.MustCompile(`(?m)^ *`)
)

// asks tells whether there is a command of that name, and whether it takes an argument.
func asks(name string) (is bool, takes bool) {
	for _, order := range strings.Fields(orders) {
		word, argument, _ := strings.Cut(order, "=")
		if word == name {
			return true, argument != ""
		}
	}
	return false, false
}

// page is a look back as one text, with a byte 10 between its lines: a place is where it lies in that text.
type page struct {
	w, h      int
	flat      string
	places    []int // rising
	cursor    int
	wished    int
	top       int
	mark      int // -1: none
	rectangle bool
	text      string // the one that was sought last
	textBack  bool
	letter    string
	letterBak bool
}

// lettersIn reads a text byte by byte: what is a whole character of UTF-8 is asked of the library, what it is of layer 19.
func lettersIn(text string) []string {
	var list []string
	for at := 0; at < len(text); {
		n := 1
		for n < 5 && !(at+n <= len(text) && utf8.ValidString(text[at:at+n])) {
			n++
		}
		if n == 5 {
			list, at = append(list, "?"), at+1
			continue
		}
		letter, _ := utf8.DecodeRuneInString(text[at:])
		switch vt.Width(letter) {
		case -1:
			list = append(list, "?")
		case 1, 2:
			list = append(list, text[at:at+n])
		}
		at += n
	}
	return list
}

func newPage(lines []string, w, h int) *page {
	var texts []string
	for _, line := range lines {
		texts = append(texts, strings.Join(lettersIn(line), ""))
	}
	p := &page{w: w, h: h, flat: strings.Join(texts, "\n"), mark: -1}
	for at := range p.flat {
		p.places = append(p.places, at)
	}
	p.places = append(p.places, len(p.flat))
	p.cursor = p.lineBegin(p.lines() - 1)
	p.top = max(0, p.lines()-h)
	return p
}

func (p *page) forked() *page {
	f := *p
	return &f
}

func (p *page) lines() int { return strings.Count(p.flat, "\n") + 1 }

func (p *page) lineOf(at int) int { return strings.Count(p.flat[:at], "\n") }

func (p *page) lettersOf(at int) int {
	return utf8.RuneCountInString(p.flat[p.lineBegin(p.lineOf(at)):at])
}

func (p *page) lineText(line int) string { return strings.Split(p.flat, "\n")[line] }

func (p *page) lineBegin(line int) int {
	if line == 0 {
		return 0
	}
	return len(strings.Join(strings.SplitN(p.flat, "\n", line+1)[:line], "\n")) + 1
}

func (p *page) lineEnd(line int) int { return p.lineBegin(line) + len(p.lineText(line)) }

// next is the nearest place behind (ahead of) the cursor that fits; there may be none.
func (p *page) next(back bool, fits func(at int) bool) (int, bool) {
	places := slices.Clone(p.places)
	if back {
		slices.Reverse(places)
	}
	for _, at := range places {
		if (at < p.cursor) == back && at != p.cursor && fits(at) {
			return at, true
		}
	}
	return 0, false
}

func anyPlace(int) bool { return true }

// found are the beginnings (of a word form: or ends) of all that a form matches.
func (p *page) found(form *regexp.Regexp, end int) func(int) bool {
	var list []int
	for _, match := range form.FindAllStringIndex(p.flat, -1) {
		list = append(list, match[end])
	}
	return func(at int) bool { return slices.Contains(list, at) }
}

func (p *page) stands(text string) func(int) bool {
	return func(at int) bool { return strings.HasPrefix(p.flat[at:], text) }
}

// goTo is where the cursor's letters become the column wished for.
func (p *page) goTo(at int) api.Errno {
	p.cursor = at
	p.wished = p.lettersOf(at)
	p.follow()
	return 0
}

// goDown is where the column wished for stays.
func (p *page) goDown(line int) api.Errno {
	at := p.lineBegin(line)
	for n := 0; n < p.wished && at < p.lineEnd(line); n++ {
		_, size := utf8.DecodeRuneInString(p.flat[at:])
		at += size
	}
	p.cursor = at
	p.follow()
	return 0
}

func (p *page) follow() {
	if line := p.lineOf(p.cursor); line < p.top {
		p.top = line
	} else if line >= p.top+p.h {
		p.top = line - p.h + 1
	}
}

func (p *page) nextOr(back bool, fits func(int) bool, other int) api.Errno {
	if at, is := p.next(back, fits); is {
		return p.goTo(at)
	}
	return p.goTo(other)
}

func (p *page) nextOrStay(back bool) api.Errno {
	if at, is := p.next(back, anyPlace); is {
		return p.goTo(at)
	}
	return 0
}

// nearest is the number from 0 up to most that is nearest to n.
func nearest(n, most int) int {
	for n < 0 {
		n++
	}
	for n > most {
		n--
	}
	return n
}

func (p *page) greatestTop() int { return max(0, p.lines()-p.h) }

func (p *page) paged(n int) api.Errno {
	line := p.lineOf(p.cursor)
	p.top = nearest(p.top+n, p.greatestTop())
	return p.goDown(nearest(line+n, p.lines()-1))
}

func (p *page) scrolled(n int) api.Errno {
	p.top = nearest(p.top+n, p.greatestTop())
	switch line := p.lineOf(p.cursor); {
	case line < p.top:
		return p.goDown(p.top)
	case line >= p.top+p.h:
		return p.goDown(p.top + p.h - 1)
	}
	return 0
}

func (p *page) sought(text string, back bool) api.Errno {
	if text == "" {
		return 250
	}
	if at, is := p.next(back, p.stands(text)); is {
		return p.goTo(at)
	}
	at := strings.Index(p.flat, text)
	if back {
		at = strings.LastIndex(p.flat, text)
	}
	if at < 0 {
		return 110
	}
	return p.goTo(at)
}

func (p *page) jumped(letter string, back bool) api.Errno {
	if letter == "" {
		return 250
	}
	line := p.lineOf(p.cursor)
	at, is := p.next(back, func(at int) bool { return p.lineOf(at) == line && p.stands(letter)(at) })
	if !is {
		return 110
	}
	return p.goTo(at)
}

// do does a command, as the chapter's table says.
func (p *page) do(command string) api.Errno {
	parts := orderForm.FindStringSubmatch(command)
	name, blank, argument := parts[1], parts[2], parts[3]
	is, takes := asks(name)
	switch {
	case !is:
		return 120
	case takes && argument == "":
		return 123
	case !takes && blank != "":
		return 124
	case takes:
		return p.doWith(name, argument)
	case strings.HasPrefix(name, "cursor-") || strings.Contains(name, "page-") || strings.HasPrefix(name, "scroll-"):
		return p.doStep(name)
	case strings.Contains(name, "select") || name == "other-end" || name == "rectangle-toggle":
		return p.doMark(name)
	}
	return p.doMove(name)
}

func (p *page) doWith(name, argument string) api.Errno {
	letters := lettersIn(argument)
	text, back := strings.Join(letters, ""), strings.HasSuffix(name, "backward")
	switch {
	case name == "goto-line":
		n, _ := strconv.Atoi(argument)
		if !numberForm.MatchString(argument) || n > 1<<62 || strconv.Itoa(n) != argument {
			return 125
		}
		return p.goTo(p.lineBegin(min(n, p.lines()-1)))
	case strings.HasPrefix(name, "search"):
		if len(letters) == 0 {
			return 125
		}
		p.text, p.textBack = text, back
		return p.sought(text, back)
	}
	if len(letters) != 1 {
		return 125
	}
	p.letter, p.letterBak = text, back
	return p.jumped(text, back)
}

func (p *page) doStep(name string) api.Errno {
	line := p.lineOf(p.cursor)
	switch name {
	case "cursor-left":
		return p.nextOrStay(true)
	case "cursor-right":
		return p.nextOrStay(false)
	case "cursor-up":
		if line == 0 {
			return 0
		}
		return p.goDown(line - 1)
	case "cursor-down":
		if line == p.lines()-1 {
			return 0
		}
		return p.goDown(line + 1)
	case "scroll-up":
		return p.scrolled(-1)
	case "scroll-down":
		return p.scrolled(1)
	}
	n := p.h - 1
	if strings.HasPrefix(name, "half") {
		n = p.h / 2
	}
	if n == 0 {
		n = 1
	}
	if strings.HasSuffix(name, "-up") {
		n = -n
	}
	return p.paged(n)
}

func (p *page) doMove(name string) api.Errno {
	line, last := p.lineOf(p.cursor), p.lines()-1
	shown := min(p.h, p.lines()-p.top)
	switch name {
	case "start-of-line":
		return p.goTo(p.lineBegin(line))
	case "end-of-line":
		return p.goTo(p.lineEnd(line))
	case "back-to-indentation":
		return p.goTo(p.lineBegin(line) + len(indentForm.FindString(p.lineText(line))))
	case "history-top":
		return p.goTo(0)
	case "history-bottom":
		return p.goTo(p.lineBegin(last))
	case "top-line":
		return p.goTo(p.lineBegin(p.top))
	case "middle-line":
		return p.goTo(p.lineBegin(p.top + shown/2))
	case "bottom-line":
		return p.goTo(p.lineBegin(p.top + shown - 1))
	case "next-word":
		return p.nextOr(false, p.found(wordForm, 0), len(p.flat))
	case "next-word-end":
		return p.nextOr(false, p.found(wordForm, 1), len(p.flat))
	case "previous-word":
		return p.nextOr(true, p.found(wordForm, 0), 0)
	case "next-paragraph":
		return p.nextOr(false, p.found(bareForm, 0), len(p.flat))
	case "previous-paragraph":
		return p.nextOr(true, p.found(bareForm, 0), 0)
	case "search-again":
		return p.sought(p.text, p.textBack)
	case "search-reverse":
		return p.sought(p.text, !p.textBack)
	case "jump-again":
		return p.jumped(p.letter, p.letterBak)
	case "jump-reverse":
		return p.jumped(p.letter, !p.letterBak)
	}
	panic("the model does not know " + name)
}

func (p *page) doMark(name string) api.Errno {
	switch name {
	case "begin-selection":
		p.mark = p.cursor
	case "clear-selection":
		p.mark, p.rectangle = -1, false
	case "rectangle-toggle":
		p.rectangle = !p.rectangle
	case "other-end":
		if p.mark < 0 {
			return 250
		}
		at := p.mark
		p.mark = p.cursor
		return p.goTo(at)
	case "select-line":
		line := p.lineOf(p.cursor)
		p.mark, p.rectangle = p.lineBegin(line), false
		return p.goTo(p.lineEnd(line))
	case "select-word":
		for _, word := range wordForm.FindAllStringIndex(p.flat, -1) {
			if word[0] <= p.cursor && p.cursor < word[1] {
				p.mark, p.rectangle = word[0], false
				return p.goTo(word[1])
			}
		}
		return 110
	default:
		panic("the model does not know " + name)
	}
	return 0
}

// isMarked tells whether the letter at a place is one of the selection's.
func (p *page) isMarked(at int) bool {
	if p.mark < 0 || p.flat[at] == '\n' {
		return false
	}
	if !p.rectangle {
		return min(p.mark, p.cursor) <= at && at < max(p.mark, p.cursor)
	}
	within := func(n, a, b, more int) bool { return min(a, b) <= n && n < max(a, b)+more }
	return within(p.lineOf(at), p.lineOf(p.mark), p.lineOf(p.cursor), 1) &&
		within(p.lettersOf(at), p.lettersOf(p.mark), p.lettersOf(p.cursor), 0)
}

func (p *page) selection() (string, bool) {
	if p.mark < 0 {
		return "", false
	}
	var told []byte
	from, to := min(p.lineOf(p.mark), p.lineOf(p.cursor)), max(p.lineOf(p.mark), p.lineOf(p.cursor))
	for i, letter := range p.flat {
		line := p.lineOf(i)
		if p.isMarked(i) || letter == '\n' && from <= line && line < to {
			told = append(told, string(letter)...)
		}
	}
	return string(told), true
}

// picture asks of each place of the rows which letter covers it.
func (p *page) picture() api.Picture {
	shown := api.Picture{W: p.w, H: p.h, Y: p.lineOf(p.cursor) - p.top}
	for y := range p.h {
		for x := range p.w {
			shown.Places = append(shown.Places, p.glyph(x, y))
		}
	}
	for _, letter := range p.flat[p.lineBegin(p.lineOf(p.cursor)):p.cursor] {
		if shown.X += vt.Width(letter); shown.X > p.w-1 {
			shown.X = p.w - 1
		}
	}
	return shown
}

func (p *page) glyph(x, y int) api.Glyph {
	blank := api.Glyph{Text: " ", Width: 1}
	if p.top+y >= p.lines() {
		return blank
	}
	begin, column := p.lineBegin(p.top+y), 0
	for i, letter := range p.lineText(p.top + y) {
		width := vt.Width(letter)
		if column <= x && x < column+width && column+width <= p.w {
			g := api.Glyph{Text: string(letter), Width: width}
			if x > column {
				g = api.Glyph{}
			}
			if p.isMarked(begin + i) {
				g.Attr.Marks = 32
			}
			return g
		}
		if column += width; column > x {
			break
		}
	}
	return blank
}
