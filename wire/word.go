package wire

import "strings"

// Where a text of the wire may have come to.
const (
	outside = iota // of all blocks
	inside         // of a block
	over           // behind the exit
	lost           // where no word goes
)

// after is where a line of that class leads to.
func after(place, class int) int {
	switch {
	case place == outside && class == ClassTold:
		return outside
	case place == outside && class == ClassBegin:
		return inside
	case place == outside && class == ClassExit:
		return over
	case place == inside && class == ClassBody:
		return inside
	case place == inside && class == ClassEnd:
		return outside
	}
	return lost
}

// Word tells whether a text is a beginning of a word of the wire, and whether it is a word.
func Word(text string) (bool, bool) {
	place := outside
	for place != lost {
		line, rest, ended := strings.Cut(text, lineEnd)
		if !ended {
			return mayCome(place, text), text == "" && place != inside
		}
		place = after(place, Class(line))
		text = rest
	}
	return false, false
}

// mayCome tells whether a line that may stand at that place begins with the text.
// Nothing at all may come everywhere: also behind the exit, where no line may.
func mayCome(place int, text string) bool {
	if text == "" {
		return true
	}
	for kind := range heads {
		if after(place, classOf(kind)) != lost && rowOf(kind).begins(text) {
			return true
		}
	}
	return false
}
