package vt

import "mullion/api"

// The numbers of the pen that take others behind them, and what these begin with.
const (
	anyFore    = 38
	anyBack    = 48
	fromTable  = 5
	fromLights = 2
)

// The first colours that are no terminal's own: of the palette, and of lights.
const (
	firstOfTable  = 1
	firstOfLights = 257
	maxLight      = 255
)

// colour takes the pen's colours and marks from an order.
func (s *Screen) colour(o order) {
	for rest := o.numbers[:o.count]; len(rest) > 0; {
		number := rest[0]
		switch rest = rest[1:]; number {
		case anyFore:
			s.pen.Fore, rest = anyColour(s.pen.Fore, rest)
		case anyBack:
			s.pen.Back, rest = anyColour(s.pen.Back, rest)
		default:
			s.pen = penBehind(s.pen, number)
		}
	}
}

// penBehind is the pen behind a number that stands alone.
func penBehind(pen api.Attr, number int) api.Attr {
	switch {
	case number == 0:
		return api.Attr{}
	case number < 30:
		pen.Marks = (pen.Marks | markOf(number)) &^ marksAgainst(number)
	case 30 <= number && number <= 39:
		pen.Fore = ownColour(pen.Fore, number-30)
	case 40 <= number && number <= 49:
		pen.Back = ownColour(pen.Back, number-40)
	case 90 <= number && number <= 97:
		pen.Fore = brightColour(number - 90)
	case 100 <= number && number <= 107:
		pen.Back = brightColour(number - 100)
	}
	return pen
}

// ownColour is one of the first eight, or with 9 the terminal's own.
func ownColour(was int, digit int) int {
	switch digit {
	case 8:
		return was
	case 9:
		return 0
	}
	return firstOfTable + digit
}

func brightColour(digit int) int { return firstOfTable + 8 + digit }

// anyColour reads a colour from the numbers behind 38 or 48, and answers those
// that are left. What is of neither form takes all of them.
func anyColour(was int, numbers []int) (int, []int) {
	switch {
	case len(numbers) >= 2 && numbers[0] == fromTable:
		return tableColour(was, numbers[1]), numbers[2:]
	case len(numbers) >= 4 && numbers[0] == fromLights:
		return lightColour(was, numbers[1], numbers[2], numbers[3]), numbers[4:]
	}
	return was, nil
}

func tableColour(was int, n int) int {
	if n > maxLight {
		return was
	}
	return firstOfTable + n
}

func lightColour(was int, red int, green int, blue int) int {
	if max(red, green, blue) > maxLight {
		return was
	}
	return firstOfLights + red<<16 + green<<8 + blue
}

// markOf is the mark that a number lets join; 0: none.
func markOf(number int) int {
	switch number {
	case 1:
		return api.MarkBold
	case 2:
		return api.MarkDim
	case 3:
		return api.MarkItalic
	case 4, 21:
		return api.MarkUnder
	case 5:
		return api.MarkBlink
	case 7:
		return api.MarkReverse
	case 8:
		return api.MarkHidden
	case 9:
		return api.MarkStrike
	}
	return 0
}

// marksAgainst is the marks that a number lets go: those of the number that is
// 20 less, where bold goes with dim.
func marksAgainst(number int) int {
	switch number {
	case 22:
		return api.MarkBold | api.MarkDim
	case 23, 24, 25, 27, 28, 29:
		return markOf(number - 20)
	}
	return 0
}
