package exec

import (
	"mullion/api"
	"mullion/octal"
)

// A saying is what a client is told of one error.
type saying struct {
	err  api.Errno
	text string
}

var sayings = [31]saying{
	{api.ErrArg, "bad argument"},
	{api.ErrLong, "too long"},
	{api.ErrFull, "no room"},
	{api.ErrLayout, "not a layout"},
	{api.ErrSide, "bad size"},
	{api.ErrNoPane, "no such pane"},
	{api.ErrSmall, "no space"},
	{api.ErrManyPanes, "too many panes"},
	{api.ErrLastPane, "only pane"},
	{api.ErrAlone, "no border"},
	{api.ErrPlan, "bad layout"},
	{api.ErrSum, "bad sum"},
	{api.ErrNoSession, "no such session"},
	{api.ErrNoWindow, "no such window"},
	{api.ErrNoIndex, "no such index"},
	{api.ErrName, "bad name"},
	{api.ErrTaken, "in use"},
	{api.ErrOnly, "only one"},
	{api.ErrQuote, "open quote"},
	{api.ErrWords, "too many words"},
	{api.ErrFormat, "bad format"},
	{api.ErrDeep, "too deep"},
	{api.ErrTarget, "not found"},
	{api.ErrMany, "ambiguous"},
	{api.ErrNowhere, "no current session"},
	{api.ErrVerb, "unknown command"},
	{api.ErrChoice, "ambiguous command"},
	{api.ErrFlag, "unknown flag"},
	{api.ErrNeeds, "value needed"},
	{api.ErrCount, "wrong number of words"},
	{api.ErrValue, "bad value"},
}

// Message is what a client is told of an error.
func Message(e api.Errno, about string) string {
	text := textOf(e)
	if about != "" {
		text += ": " + about
	}
	return text
}

func textOf(e api.Errno) string {
	for _, s := range sayings {
		if s.err == e {
			return s.text
		}
	}
	number := octal.PutNumber(int(e))
	if number == "" {
		return "error"
	}
	return "error " + number
}
