package vt

import (
	"regexp"
	"slices"
	"strconv"
	"strings"
	"unicode/utf8"

	"mullion/api"
)

// cell is a place of a paper: its glyph, and the number of the writing that
// left it there, by which the halves of a letter know one another.
type cell struct {
	api.Glyph
	writing int
}

// spot is a cursor that can be kept.
type spot struct {
	x, y    int
	pen     api.Attr
	six     bool
	sets    [2]byte // what was chosen: B or 0
	used    int
	waiting bool
}

// paper is a screen once more, made from the chapter alone: what has begun is
// kept as its bytes and asked for by regular expressions; a row is written anew
// whenever something in it changes; letters that were torn are found behind it.
type paper struct {
	w, h, history int
	rows          [][]cell
	under         [][]cell // the main screen's rows, while the other one is shown
	alternate     bool
	past          [][]cell
	spot
	kept                 [2]*spot // of the main screen, of the other one
	modes                map[string]bool
	top, bottom          int
	stops                map[int]bool
	latest               rune
	title, answer, begun string
	bells, writings      int
}

func newPaper(w, h, history int) *paper {
	p := &paper{w: w, h: h, history: history}
	p.start()
	return p
}

// start is the section 'At first'.
func (p *paper) start() {
	*p = paper{
		w: p.w, h: p.h, history: p.history, past: p.past, bells: p.bells, answer: p.answer,
		modes: map[string]bool{"7": true}, bottom: p.h - 1, spot: spot{sets: [2]byte{'B', 'B'}},
	}
	for range p.h {
		p.rows = append(p.rows, blanks(p.w, api.Attr{}))
	}
	p.eighths()
}

// clone is a paper that goes on as this one would.
func (p *paper) clone() *paper {
	q := *p
	q.rows, q.under, q.past = slices.Clone(p.rows), slices.Clone(p.under), slices.Clone(p.past)
	q.modes, q.stops = map[string]bool{}, map[int]bool{}
	for k, v := range p.modes {
		q.modes[k] = v
	}
	for k, v := range p.stops {
		q.stops[k] = v
	}
	return &q
}

func (p *paper) eighths() {
	p.stops = map[int]bool{}
	for x := 8; x < p.w; x += 8 {
		p.stops[x] = true
	}
}

func blanks(n int, attr api.Attr) []cell {
	return slices.Repeat([]cell{{Glyph: api.Glyph{Text: " ", Width: 1, Attr: attr}}}, max(n, 0))
}

func (p *paper) erasedCells(n int) []cell { return blanks(n, api.Attr{Back: p.pen.Back}) }

// lay lets a row be these parts, one behind the other.
func (p *paper) lay(y int, parts ...[]cell) { p.rows[y] = mended(slices.Concat(parts...)) }

// mended is a row in which every half of a letter that lacks the other one is a blank.
func mended(row []cell) []cell {
	whole := slices.Clone(row)
	pair := func(x int) bool {
		return 0 <= x && x+1 < len(row) && row[x].Width == 2 && row[x+1].Width == 0 && row[x].writing == row[x+1].writing
	}
	for x, c := range row {
		if c.Width == 2 && !pair(x) || c.Width == 0 && !pair(x-1) {
			whole[x] = blanks(1, c.Attr)[0]
		}
	}
	return whole
}

// The forms of what stands behind ESC, and of what stands between it and its end.
var (
	unended     = regexp.MustCompile(`^\x1b(?:[ -/]*|\[[ -?]*|[\]PX^_])$`)
	endedEscape = regexp.MustCompile(`^\x1b([ -/]*)([0-~])$`)
	endedOrder  = regexp.MustCompile(`^\x1b\[([ -?]*)([@-~])$`)
	orderForm   = regexp.MustCompile(`^([<=>?]?)([0-9]*(?:[;:][0-9]*)*)([ -/]*)$`)
	deadForm    = regexp.MustCompile(`^\x1b[PX^_]`)
	titleForm   = regexp.MustCompile(`(?s)^\x1b\][02];(.*)$`)
)

// mayBegin tells whether some character of several bytes begins so.
func mayBegin(text string) bool {
	if utf8.ValidString(text) {
		return utf8.RuneCountInString(text) == 1
	}
	for _, next := range []string{"\x80", "\x8f", "\x90", "\x9f", "\xa0", "\xbf"} {
		if len(text) < 4 && mayBegin(text+next) {
			return true
		}
	}
	return false
}

func (p *paper) feed(data string) {
	for i := range len(data) {
		p.byte(data[i : i+1])
	}
}

func (p *paper) byte(b string) {
	if p.begun != "" && p.begun[0] >= 0x80 {
		p.inCharacter(b)
		return
	}
	was := p.begun
	switch {
	case b == "\x18" || b == "\x1a":
		p.begun = ""
	case b == "\x1b":
		p.endTitle()
		p.begun = b
	case was == "":
		p.onGround(b)
	case deadForm.MatchString(was):
	case strings.HasPrefix(was, "\x1b]"):
		p.inTitle(b)
	case b < " ":
		p.control(b[0])
	case b == "\x7f":
	case b >= "\x80":
		p.begun = ""
		p.byte(b)
	default:
		p.begun += b
		p.behindEscape()
	}
}

func (p *paper) onGround(b string) {
	switch {
	case b < " ":
		p.control(b[0])
	case b < "\x7f":
		p.letter(rune(b[0]))
	case b == "\x7f":
	case mayBegin(b):
		p.begun = b
	default:
		p.letter(0xfffd)
	}
}

func (p *paper) inCharacter(b string) {
	switch text := p.begun + b; {
	case utf8.ValidString(text):
		p.begun = ""
		letter, _ := utf8.DecodeRuneInString(text)
		p.letter(letter)
	case mayBegin(text):
		p.begun = text
	default:
		p.begun = ""
		p.letter(0xfffd)
		p.byte(b)
	}
}

func (p *paper) inTitle(b string) {
	switch {
	case b == "\a":
		p.endTitle()
		p.begun = ""
	case b >= " " && b != "\x7f":
		p.begun += b
	}
}

func (p *paper) endTitle() {
	if m := titleForm.FindStringSubmatch(p.begun); m != nil {
		p.title = m[1][:min(len(m[1]), 128)]
	}
}

func (p *paper) behindEscape() {
	text := p.begun
	if unended.MatchString(text) {
		return
	}
	p.begun = ""
	if m := endedEscape.FindStringSubmatch(text); m != nil {
		p.escape(m[1], m[2])
	} else if m := endedOrder.FindStringSubmatch(text); m != nil && len(m[1]) <= 256 {
		p.sequence(m[1], m[2])
	}
}

// sequence is a control sequence of at most 256 bytes between its begin and its end.
func (p *paper) sequence(text, last string) {
	m := orderForm.FindStringSubmatch(text)
	if m == nil {
		return
	}
	numbers := []int{}
	for _, digits := range strings.Split(strings.ReplaceAll(m[2], ":", ";"), ";") {
		n, err := strconv.Atoi(digits)
		switch {
		case digits == "":
			n = -1
		case err != nil || n > 9999:
			n = 9999
		}
		numbers = append(numbers, n)
	}
	if len(numbers) > 16 {
		return
	}
	switch m[1] + m[3] + last {
	case "?h", "?l":
		for _, n := range numbers {
			p.privateMode(n, last == "h")
		}
	case "!p":
		p.soft()
	case last:
		p.order(last, numbers)
	}
}

// lineSet is what the chapter says of the set of lines.
var lineSet = map[rune]rune{
	'j': 0x2518, 'k': 0x2510, 'l': 0x250c, 'm': 0x2514, 'n': 0x253c, 'q': 0x2500, 't': 0x251c, 'u': 0x2524, 'v': 0x2534, 'w': 0x252c, 'x': 0x2502,
	'a': 0x2592, 'f': 0xb0, 'g': 0xb1, '~': 0xb7,
}

// letter is the section 'A letter is written'.
func (p *paper) letter(letter rune) {
	width := widthByText(letter)
	if width < 1 {
		return
	}
	shown := letter
	if other, ok := lineSet[letter]; ok && p.sets[p.used] == '0' {
		shown = other
	}
	if p.waiting && p.modes["7"] {
		p.x = 0
		p.down()
	}
	if width == 2 && p.x == p.w-1 {
		if !p.modes["7"] || p.w < 2 {
			return
		}
		p.x = 0
		p.down()
	}
	if p.modes["4"] {
		p.putIn(width)
	}
	p.writings++
	half := cell{api.Glyph{Text: string(shown), Width: width, Attr: p.pen}, p.writings}
	written := []cell{half, {api.Glyph{Attr: p.pen}, p.writings}}[:width]
	row := p.rows[p.y]
	p.lay(p.y, row[:p.x], written, row[p.x+width:])
	p.latest = letter
	p.x, p.waiting = p.x+width, false
	if p.x > p.w-1 {
		p.x, p.waiting = p.w-1, p.modes["7"]
	}
}

// down is a line feed.
func (p *paper) down() {
	p.waiting = false
	if p.y == p.bottom {
		p.up(p.top, 1, p.top == 0 && !p.alternate)
	} else if p.y < p.h-1 {
		p.y++
	}
}

// up scrolls the rows from one to the region's bottom up.
func (p *paper) up(from, n int, kept bool) {
	for range min(n, p.bottom-from+1) {
		if kept {
			p.remember(p.rows[from])
		}
		p.rows = slices.Insert(p.rows, p.bottom+1, p.erasedCells(p.w))
		p.rows = slices.Delete(p.rows, from, from+1)
	}
}

// under the cursor or in the region: rows move down.
func (p *paper) sink(from, n int) {
	for range min(n, p.bottom-from+1) {
		p.rows = slices.Delete(p.rows, p.bottom, p.bottom+1)
		p.rows = slices.Insert(p.rows, from, p.erasedCells(p.w))
	}
}

func (p *paper) remember(row []cell) {
	p.past = append(slices.Clone(p.past), row)
	p.past = p.past[max(0, len(p.past)-p.history):]
}

// putIn is what @ does, but for the waiting.
func (p *paper) putIn(n int) {
	row := p.rows[p.y]
	n = min(n, p.w-p.x)
	p.lay(p.y, row[:p.x], p.erasedCells(n), row[p.x:p.w-n])
}

// control is the section B.
func (p *paper) control(b byte) {
	switch b {
	case 7:
		p.bells++
	case 8:
		p.x, p.waiting = max(p.x-1, 0), false
	case 9:
		p.x, p.waiting = p.stopBehind(p.x), false
	case 10, 11, 12:
		if p.modes["20"] {
			p.x = 0
		}
		p.down()
	case 13:
		p.x, p.waiting = 0, false
	case 14, 15:
		p.used = 15 - int(b)
	}
}

func (p *paper) stopBehind(x int) int {
	for next := x + 1; next < p.w; next++ {
		if p.stops[next] {
			return next
		}
	}
	return p.w - 1
}

func (p *paper) stopAhead(x int) int {
	for next := x - 1; next > 0; next-- {
		if p.stops[next] {
			return next
		}
	}
	return 0
}

// escape is the section C.
func (p *paper) escape(between, last string) {
	switch between + last {
	case "7":
		p.keep()
	case "8":
		p.comeBack()
	case "D":
		p.down()
	case "E":
		p.x = 0
		p.down()
	case "M":
		p.waiting = false
		if p.y == p.top {
			p.sink(p.top, 1)
		} else if p.y > 0 {
			p.y--
		}
	case "H":
		p.stops[p.x] = true
	case "c":
		p.start()
	case "#8":
		for y := range p.rows {
			p.rows[y] = slices.Repeat([]cell{{Glyph: api.Glyph{Text: "E", Width: 1}}}, p.w)
		}
		p.top, p.bottom, p.x, p.y, p.waiting = 0, p.h-1, 0, 0, false
	}
	if which := strings.Index("()", between); len(between) == 1 && which >= 0 {
		p.sets[which] = last[0]
	}
}

func (p *paper) shown() int {
	if p.alternate {
		return 1
	}
	return 0
}

func (p *paper) keep() {
	kept := p.spot
	p.kept[p.shown()] = &kept
}

func (p *paper) comeBack() {
	p.spot = spot{sets: [2]byte{'B', 'B'}}
	if kept := p.kept[p.shown()]; kept != nil {
		p.spot = *kept
	}
}

// show is what ?47 does.
func (p *paper) show(alternate bool) {
	if p.alternate == alternate {
		return
	}
	p.alternate, p.waiting, p.kept[1] = alternate, false, nil
	if !alternate {
		p.rows, p.under = p.under, nil
		return
	}
	p.under, p.rows = p.rows, nil
	for range p.h {
		p.rows = append(p.rows, p.erasedCells(p.w))
	}
}

func (p *paper) privateMode(n int, on bool) {
	switch n {
	case 1, 2004, 25:
		p.modes["?"+strconv.Itoa(n)] = on != (n == 25)
	case 6:
		p.six = on
		p.home()
	case 7:
		p.modes["7"] = on
		if !on {
			p.waiting = false
		}
	case 47, 1047:
		p.show(on)
	case 1048:
		if on {
			p.keep()
		} else {
			p.comeBack()
		}
	case 1049:
		if on && !p.alternate {
			p.keep()
			p.show(true)
		} else if !on && p.alternate {
			p.show(false)
			p.comeBack()
		}
	}
}

func (p *paper) home() {
	p.x, p.waiting = 0, false
	p.toRow(1)
}

// toRow is d.
func (p *paper) toRow(n int) {
	if p.six {
		p.y = min(p.top+n-1, p.bottom)
	} else {
		p.y = min(n, p.h) - 1
	}
}

func (p *paper) soft() {
	p.modes = map[string]bool{"7": true, "?2004": p.modes["?2004"]}
	p.spot = spot{x: p.x, y: p.y, sets: [2]byte{'B', 'B'}}
	p.top, p.bottom = 0, p.h-1
	p.kept[p.shown()] = nil
}

// resize is V5.
func (p *paper) resize(w, h int) {
	main, y := p.rows, p.y
	if p.alternate {
		main, y = p.under, p.h-1
	}
	main = slices.Clone(main)
	for h < p.h && len(main) > h {
		last := len(main) - 1
		if text := textOf(main[last]); text == "" && last > y {
			main = main[:last]
			continue
		}
		for len(main) > h {
			p.remember(main[0])
			main, y = main[1:], max(y-1, 0)
		}
	}
	for h > p.h && len(main) < h && len(p.past) > 0 {
		newest := len(p.past) - 1
		main, y = slices.Insert(main, 0, p.past[newest]), y+1
		p.past = p.past[:newest]
	}
	if p.alternate {
		p.under, p.rows = sizedRows(main, w, h), sizedRows(p.rows, w, h)
	} else {
		p.rows, p.y = sizedRows(main, w, h), y
	}
	p.w, p.h, p.top, p.bottom = w, h, 0, h-1
	p.spot = p.spot.within(w, h)
	p.waiting = false
	for i, kept := range p.kept {
		if kept != nil {
			moved := kept.within(w, h)
			p.kept[i] = &moved
		}
	}
	p.eighths()
}

func (s spot) within(w, h int) spot {
	s.x, s.y = min(s.x, w-1), min(s.y, h-1)
	return s
}

func sizedRows(rows [][]cell, w, h int) [][]cell {
	var sized [][]cell
	for y := range h {
		var row []cell
		if y < len(rows) {
			row = rows[y]
		}
		row = slices.Concat(row, blanks(w-len(row), api.Attr{}))
		sized = append(sized, mended(row[:w]))
	}
	return sized
}

// textOf is a row's text without the blanks at its end.
func textOf(row []cell) string {
	for len(row) > 0 && row[len(row)-1].Text == " " {
		row = row[:len(row)-1]
	}
	var text []byte
	for _, c := range row {
		text = append(text, c.Text...)
	}
	return string(text)
}
