package wire

import (
	"strings"

	"mullion/api"
	"mullion/octal"
)

const (
	planBytes = "0123456789abcdefx,{}[]"
	zoomed    = "Z"
	whole     = "-"
)

// field is one thing of a row: the functions that write it from an event and read it into one.
type field struct {
	put  func(e *api.Event) string
	read func(e *api.Event, text string) bool

	// ends are texts with blanks between them, so many that every field that was cut off
	// is a field again with one of them behind it.
	ends string
}

// begins tells whether the text is a field or becomes one by more bytes.
func (f field) begins(text string) bool {
	var unused api.Event
	if f.read(&unused, text) {
		return true
	}
	for _, end := range strings.Fields(f.ends) {
		if f.read(&unused, text+end) {
			return true
		}
	}
	return false
}

func tick() field {
	return number(api.MaxNumber, func(e *api.Event) *int { return &e.Tick })
}

func lineNumber() field {
	return number(api.MaxNumber, func(e *api.Event) *int { return &e.Number })
}

func offset() field {
	return number(api.MaxNumber, func(e *api.Event) *int { return &e.Offset })
}

func flag() field {
	return number(1, func(e *api.Event) *int { return &e.Flag })
}

func index() field {
	return number(api.MaxIndex, func(e *api.Event) *int { return &e.Index })
}

func session() field {
	return id('$', func(e *api.Event) *int { return &e.Session })
}

func window() field {
	return id('@', func(e *api.Event) *int { return &e.Window })
}

func pane() field {
	return id('%', func(e *api.Event) *int { return &e.Pane })
}

func name() field { return named(octal.IsName) }

func word() field { return named(octal.IsWord) }

func layout() field {
	return plan(func(e *api.Event) *string { return &e.Layout })
}

func visible() field {
	return plan(func(e *api.Event) *string { return &e.Visible })
}

// number is a number from 0 to most.
func number(most int, of func(*api.Event) *int) field {
	return field{
		put: func(e *api.Event) string { return octal.PutNumber(*of(e)) },
		read: func(e *api.Event, text string) bool {
			n, ok := octal.Number(text)
			*of(e) = n
			return ok && n <= most
		},
		ends: "0",
	}
}

func id(mark byte, of func(*api.Event) *int) field {
	return field{
		put: func(e *api.Event) string { return octal.PutId(mark, *of(e)) },
		read: func(e *api.Event, text string) bool {
			n, ok := octal.Id(mark, text)
			*of(e) = n
			return ok
		},
		ends: string(mark) + "1 1",
	}
}

func named(is func(string) bool) field {
	return field{
		put: func(e *api.Event) string { return e.Name },
		read: func(e *api.Event, text string) bool {
			e.Name = strings.Clone(text)
			return is(text)
		},
		ends: "a",
	}
}

func plan(of func(*api.Event) *string) field {
	return field{
		put: func(e *api.Event) string { return *of(e) },
		read: func(e *api.Event, text string) bool {
			*of(e) = strings.Clone(text)
			return text != "" && len(text) <= api.MaxPlan && strings.TrimLeft(text, planBytes) == ""
		},
		ends: "0",
	}
}

func zoom() field {
	return field{
		put: func(e *api.Event) string {
			if e.Zoom {
				return zoomed
			}
			return whole
		},
		read: func(e *api.Event, text string) bool {
			e.Zoom = text == zoomed
			return e.Zoom || text == whole
		},
		ends: whole,
	}
}

// colon tells nothing: it stands ahead of a value, whatever that begins with.
func colon() field {
	return field{
		put:  func(*api.Event) string { return ":" },
		read: func(_ *api.Event, text string) bool { return text == ":" },
		ends: ":",
	}
}

// escaped is the escape of a text of least to most bytes.
func escaped(least, most int) field {
	return field{
		put: func(e *api.Event) string {
			if len(e.Text) > most {
				return "" // however long it is, its escape is not made; another event is read back
			}
			return octal.Escape(e.Text)
		},
		read: func(e *api.Event, text string) bool {
			plain, err := octal.Unescape(text)
			e.Text = plain
			return err == api.OK && len(plain) >= least && len(plain) <= most
		},
		ends: "134 34 4", // what may lack of the backslash's own code ends every other code too
	}
}

// body is a whole line of an answer.
func body() field {
	return field{
		put: func(e *api.Event) string { return octal.EscapeBody(e.Text) },
		read: func(e *api.Event, text string) bool {
			plain, err := octal.UnescapeBody(text)
			e.Text = plain
			return err == api.OK
		},
		ends: "134 34 4 5", // as above, and what may lack of \045
	}
}

// reason is what may stand behind the word exit: nothing, or a blank and a text.
func reason() field {
	said := escaped(1, api.MaxText)
	return field{
		put: func(e *api.Event) string {
			if e.Text == "" {
				return ""
			}
			return blank + said.put(e)
		},
		read: func(e *api.Event, text string) bool {
			if text == "" {
				return true
			}
			behind, ok := strings.CutPrefix(text, blank)
			return ok && said.read(e, behind)
		},
		ends: said.ends,
	}
}
