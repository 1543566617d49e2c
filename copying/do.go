package copying

import (
	"maps"
	"slices"
	"strings"

	"mullion/api"
)

// bare has the commands that take no argument, by their names.
func bare() map[string]func(*Mode) api.Errno {
	return map[string]func(*Mode) api.Errno{
		"back-to-indentation": (*Mode).backToIndentation,
		"begin-selection":     (*Mode).beginSelection,
		"bottom-line":         (*Mode).bottomLine,
		"clear-selection":     (*Mode).clearSelection,
		"cursor-down":         (*Mode).cursorDown,
		"cursor-left":         (*Mode).cursorLeft,
		"cursor-right":        (*Mode).cursorRight,
		"cursor-up":           (*Mode).cursorUp,
		"end-of-line":         (*Mode).endOfLine,
		"halfpage-down":       (*Mode).halfpageDown,
		"halfpage-up":         (*Mode).halfpageUp,
		"history-bottom":      (*Mode).historyBottom,
		"history-top":         (*Mode).historyTop,
		"jump-again":          (*Mode).jumpAgain,
		"jump-reverse":        (*Mode).jumpReverse,
		"middle-line":         (*Mode).middleLine,
		"next-paragraph":      (*Mode).nextParagraph,
		"next-word":           (*Mode).nextWord,
		"next-word-end":       (*Mode).nextWordEnd,
		"other-end":           (*Mode).otherEnd,
		"page-down":           (*Mode).pageDown,
		"page-up":             (*Mode).pageUp,
		"previous-paragraph":  (*Mode).previousParagraph,
		"previous-word":       (*Mode).previousWord,
		"rectangle-toggle":    (*Mode).rectangleToggle,
		"scroll-down":         (*Mode).scrollDown,
		"scroll-up":           (*Mode).scrollUp,
		"search-again":        (*Mode).searchAgain,
		"search-reverse":      (*Mode).searchReverse,
		"select-line":         (*Mode).selectLine,
		"select-word":         (*Mode).selectWord,
		"start-of-line":       (*Mode).startOfLine,
		"top-line":            (*Mode).topLine,
	}
}

// asking has those that take one.
func asking() map[string]func(*Mode, string) api.Errno {
	return map[string]func(*Mode, string) api.Errno{
		"goto-line":       (*Mode).gotoLine,
		"jump-backward":   (*Mode).jumpBackward,
		"jump-forward":    (*Mode).jumpForward,
		"search-backward": (*Mode).searchBackward,
		"search-forward":  (*Mode).searchForward,
	}
}

// Commands tells the names of all commands.
func Commands() []string {
	names := slices.AppendSeq(slices.Collect(maps.Keys(bare())), maps.Keys(asking()))
	slices.Sort(names)
	return names
}

// Do does a command.
func (m *Mode) Do(command string) api.Errno {
	name, argument, more := strings.Cut(command, " ")
	if do, ok := bare()[name]; ok {
		if more {
			return api.ErrCount
		}
		return do(m)
	}
	do, ok := asking()[name]
	switch {
	case !ok:
		return api.ErrVerb
	case argument == "":
		return api.ErrNeeds
	}
	return do(m, argument)
}
