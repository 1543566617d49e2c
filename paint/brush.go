package paint

import (
	"strconv"
	"strings"

	"mullion/api"
)

// Bytes that begin and end what is told beside letters.
const (
	sequence   = "\x1b["
	titleAlone = "\x1b]2;"
	textEnd    = "\x1b\\" // and not the byte 07: what does not know of titles would ring
	showCursor = "\x1b[?25h"
	hideCursor = "\x1b[?25l"
)

// The numbers of the pen: where those of each ground begin, and how far behind
// that the others stand.
const (
	fore       = 30
	back       = 40
	bright     = 60
	others     = 8
	own        = 9
	fromTable  = 5
	fromLights = 2
)

// The first colours of each kind; 0 is the terminal's own one.
const (
	firstOfTable  = 1
	firstOfBright = 9
	firstOfOthers = 17
	firstOfLights = 257
)

// marks are by which number of the pen each mark joins.
var marks = [...]struct{ mark, number int }{
	{api.MarkBold, 1}, {api.MarkDim, 2}, {api.MarkItalic, 3}, {api.MarkUnder, 4},
	{api.MarkBlink, 5}, {api.MarkReverse, 7}, {api.MarkHidden, 8}, {api.MarkStrike, 9},
}

// brush tells bytes, and knows where they leave the terminal.
//
// Ahead of the first byte and behind the last one the pen is the zero one, and
// the terminal does not wait: a letter in the last column leaves x beyond all
// columns, so that a move is always told behind it.
type brush struct {
	told strings.Builder
	x, y int
	pen  api.Attr
}

// order tells a control sequence.
func (b *brush) order(last byte, numbers ...int) {
	b.told.WriteString(sequence)
	for i, n := range numbers {
		if i > 0 {
			b.told.WriteByte(';')
		}
		b.told.WriteString(strconv.Itoa(n))
	}
	b.told.WriteByte(last)
}

func (b *brush) move(x int, y int) {
	if b.x == x && b.y == y {
		return
	}
	b.order('H', y+1, x+1)
	b.x, b.y = x, y
}

// letters writes a run's places from the cursor on; a right place has neither
// bytes nor a pen of its own. A letter of which only the left place differs
// reaches one place beyond the run, and leaves there what was there. Where an
// old letter is cut in two, both its places differ: the run mends what the cut
// spoils.
func (b *brush) letters(places []api.Glyph) {
	for _, g := range places {
		b.take(g.Attr)
		b.told.WriteString(g.Text)
		b.x += g.Width
	}
}

// take changes the pen. A terminal reads only so many numbers of one sequence:
// marks and colours have one each.
func (b *brush) take(pen api.Attr) {
	if pen == (api.Attr{}) && b.pen != pen {
		b.order('m')
		b.pen = pen
	}
	if pen.Marks != b.pen.Marks {
		b.order('m', markNumbers(pen.Marks)...)
		b.pen = api.Attr{Marks: pen.Marks}
	}
	if pen.Fore != b.pen.Fore {
		b.order('m', colourNumbers(fore, pen.Fore)...)
	}
	if pen.Back != b.pen.Back {
		b.order('m', colourNumbers(back, pen.Back)...)
	}
	b.pen = pen
}

// markNumbers lets all colours and marks go, and then these join.
func markNumbers(sum int) []int {
	numbers := []int{0}
	for _, m := range marks {
		if sum&m.mark != 0 {
			numbers = append(numbers, m.number)
		}
	}
	return numbers
}

func colourNumbers(ground int, colour int) []int {
	switch {
	case colour < firstOfTable:
		return []int{ground + own}
	case colour < firstOfBright:
		return []int{ground + colour - firstOfTable}
	case colour < firstOfOthers:
		return []int{ground + bright + colour - firstOfBright}
	case colour < firstOfLights:
		return []int{ground + others, fromTable, colour - firstOfTable}
	}
	lights := colour - firstOfLights
	return []int{ground + others, fromLights, lights >> 16, lights >> 8 & 0xff, lights & 0xff}
}

func (b *brush) hide(hidden bool) {
	if hidden {
		b.told.WriteString(hideCursor)
	} else {
		b.told.WriteString(showCursor)
	}
}

func (b *brush) title(text string) {
	b.told.WriteString(titleAlone)
	b.told.WriteString(text)
	b.told.WriteString(textEnd)
}
