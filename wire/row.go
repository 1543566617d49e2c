package wire

import (
	"strings"

	"mullion/api"
)

const blank = " "

// heads are what the lines of each kind begin with; a body line begins with nothing that is its own.
var heads = [...]string{
	api.EvBegin:          "%begin ",
	api.EvEnd:            "%end ",
	api.EvError:          "%error ",
	api.EvOutput:         "%output ",
	api.EvPause:          "%pause ",
	api.EvContinue:       "%continue ",
	api.EvPaneAdd:        "%pane-add ",
	api.EvPaneClose:      "%pane-close ",
	api.EvWindowAdd:      "%window-add ",
	api.EvWindowClose:    "%window-close ",
	api.EvWindowRenamed:  "%window-renamed ",
	api.EvLayout:         "%layout-change ",
	api.EvPaneChanged:    "%window-pane-changed ",
	api.EvSessionAdd:     "%session-add ",
	api.EvSessionClose:   "%session-close ",
	api.EvSessionRenamed: "%session-renamed ",
	api.EvLink:           "%window-link ",
	api.EvUnlink:         "%window-unlink ",
	api.EvSessionWindow:  "%session-window-changed ",
	api.EvSession:        "%session-changed ",
	api.EvWatch:          "%subscription-changed ",
	api.EvMessage:        "%message ",
	api.EvExit:           "%exit", // the word may stand alone: the blank is its field's
}

// row is how the events of one kind are written: the head, and the fields with one blank between two.
type row struct {
	kind   int
	head   string
	fields []field
}

func hasRow(kind int) bool { return kind > api.EvNone && kind < api.EvBad }

func rowOf(kind int) row {
	return row{kind: kind, head: heads[kind], fields: fieldsOf(kind)}
}

// fieldsOf is a switch and not a table of all rows, so that one line costs no more than its own row.
func fieldsOf(kind int) []field {
	switch kind {
	case api.EvBegin, api.EvEnd, api.EvError:
		return []field{tick(), lineNumber(), flag()}
	case api.EvBody:
		return []field{body()}
	case api.EvOutput:
		return []field{pane(), escaped(1, api.MaxOutput)}
	case api.EvPause, api.EvContinue, api.EvPaneAdd:
		return []field{pane(), offset()}
	case api.EvPaneClose:
		return []field{pane()}
	case api.EvWindowAdd, api.EvWindowRenamed:
		return []field{window(), name()}
	case api.EvWindowClose:
		return []field{window()}
	case api.EvLayout:
		return []field{window(), layout(), visible(), zoom()}
	case api.EvPaneChanged:
		return []field{window(), pane()}
	case api.EvSessionAdd, api.EvSessionRenamed, api.EvSession:
		return []field{session(), name()}
	case api.EvSessionClose:
		return []field{session()}
	case api.EvLink:
		return []field{session(), index(), window()}
	case api.EvUnlink, api.EvSessionWindow:
		return []field{session(), index()}
	case api.EvWatch:
		return []field{word(), session(), window(), index(), pane(), colon(), escaped(0, api.MaxText)}
	case api.EvMessage:
		return []field{escaped(0, api.MaxText)}
	case api.EvExit:
		return []field{reason()}
	}
	return nil
}

// kindOf tells the one kind whose line this may be; EvBad: there is none.
func kindOf(line string) int {
	if !strings.HasPrefix(line, "%") {
		return api.EvBody
	}
	for kind, head := range heads {
		if head != "" && strings.HasPrefix(line, head) {
			return kind
		}
	}
	return api.EvBad
}

func (r row) write(e api.Event) string {
	texts := make([]string, len(r.fields))
	for i, f := range r.fields {
		texts[i] = f.put(&e)
	}
	return r.head + strings.Join(texts, blank)
}

// cut gives the texts of the fields; the last one has all that is left, since names and data may hold blanks.
func (r row) cut(behindHead string) []string {
	return strings.SplitN(behindHead, blank, len(r.fields))
}

// read takes a whole line; false: it is none of this row's.
func (r row) read(line string) (api.Event, bool) {
	behind, ok := strings.CutPrefix(line, r.head)
	texts := r.cut(behind)
	if !ok || len(texts) < len(r.fields) {
		return api.Event{}, false
	}
	return r.readFields(texts)
}

// readFields reads as many fields as there are texts.
func (r row) readFields(texts []string) (api.Event, bool) {
	e := api.Event{Kind: r.kind}
	for i, text := range texts {
		if !r.fields[i].read(&e, text) {
			return api.Event{}, false
		}
	}
	return e, true
}

// begins tells whether some line of this row begins with the text.
func (r row) begins(text string) bool {
	behind, ok := strings.CutPrefix(text, r.head)
	if !ok {
		return strings.HasPrefix(r.head, text)
	}
	texts := r.cut(behind)
	last := len(texts) - 1
	_, ok = r.readFields(texts[:last])
	return ok && r.fields[last].begins(texts[last])
}
