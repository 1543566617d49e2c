package buffers

import "strings"

// The marks by which a program knows what is pasted from what is typed.
const (
	markBegin = "\x1b[200~"
	markEnd   = "\x1b[201~"
)

// Paste is a text as it is pasted.
func Paste(text, between string, bracket bool) string {
	if !bracket {
		// Where nothing is replaced the text itself would be handed out.
		return strings.Clone(joined(text, between))
	}
	// A text that holds the end mark could say that all behind it was typed.
	return markBegin + joined(strings.ReplaceAll(text, markEnd, ""), between) + markEnd
}

func joined(text, between string) string { return strings.ReplaceAll(text, "\n", between) }
