package format

import (
	"strings"

	"mullion/api"
)

// An expander says texts over one list of variables.
type expander struct {
	vars  []api.Var
	first map[string]int // of each name: the first variable, which counts
	heads map[string]head
	turns map[byte]turner
}

func newExpander(vars []api.Var) *expander {
	x := &expander{vars: vars, first: map[string]int{}, turns: turners()}
	for i, v := range vars {
		if _, ok := x.first[v.Name]; !ok {
			x.first[v.Name] = i
		}
	}
	x.heads = x.headsByName()
	return x
}

// expand answers what a text of that depth says.
func (x *expander) expand(text string, depth int) (string, error) {
	var said strings.Builder
	for text != "" {
		piece, length, err := x.next(text, depth)
		if err != nil {
			return "", err
		}
		if said.Len()+len(piece) > api.MaxText {
			return "", fault{api.ErrLong}
		}
		said.WriteString(piece)
		text = text[length:]
	}
	return said.String(), nil
}

// next answers what the beginning of a text says, and how many bytes that
// beginning has.
func (x *expander) next(text string, depth int) (string, int, error) {
	if plain := plainBytes(text); plain > 0 {
		return text[:plain], plain, nil
	}
	if len(text) == 1 {
		return text, 1, nil
	}
	switch text[1] {
	case '#', ',', '}':
		return text[1:2], 2, nil
	case '{':
		return x.place(text, depth)
	}
	if name := shortForm(text[1]); name != "" {
		return x.value(name), 2, nil
	}
	return text[:1], 1, nil
}

// plainBytes answers how many bytes there are ahead of a text's first #.
func plainBytes(text string) int {
	if hash := strings.IndexByte(text, '#'); hash >= 0 {
		return hash
	}
	return len(text)
}

// shortForm answers the name of the variable for which a # and that byte stand,
// or nothing.
func shortForm(b byte) string {
	switch b {
	case 'S':
		return "session_name"
	case 'W':
		return "window_name"
	case 'I':
		return "window_index"
	case 'P':
		return "pane_index"
	case 'D':
		return "pane_id"
	case 'F':
		return "window_flags"
	}
	return ""
}

// place answers what the place says with which a text of that depth begins, and
// how many bytes the place has.
func (x *expander) place(text string, depth int) (string, int, error) {
	const begin = len("#{")
	length, ok := insideLength(text[begin:])
	if !ok {
		return "", 0, fault{api.ErrFormat}
	}
	inside := text[begin : begin+length]
	if depth == api.MaxDepth {
		return "", 0, within{inside, fault{api.ErrDeep}}
	}
	said, err := x.inside(inside, depth+1)
	if err != nil {
		return "", 0, within{inside, err}
	}
	return said, begin + length + len("}"), nil
}

// inside answers what a place says by its inside, whose parts are of that depth.
func (x *expander) inside(inside string, depth int) (string, error) {
	if rest, ok := strings.CutPrefix(inside, "?"); ok {
		return x.choice(rest, depth)
	}
	if name, rest, ok := strings.Cut(inside, ":"); ok {
		return x.headed(name, rest, depth)
	}
	if isIdentifier(inside) {
		return x.value(inside), nil
	}
	return "", fault{api.ErrFormat}
}

func (x *expander) choice(rest string, depth int) (string, error) {
	parts := cutAtCommas(rest)
	if len(parts) != 2 && len(parts) != 3 {
		return "", fault{api.ErrFormat}
	}
	asked, err := x.operand(parts[0], depth)
	if err != nil {
		return "", err
	}
	if Truth(asked) {
		return x.expand(parts[1], depth)
	}
	if len(parts) == 2 {
		return "", nil
	}
	return x.expand(parts[2], depth)
}

func (x *expander) headed(name, rest string, depth int) (string, error) {
	if says, ok := x.heads[name]; ok {
		return says(rest, depth)
	}
	turns, ok := x.turnsOf(name)
	if !ok {
		return "", fault{api.ErrFormat}
	}
	text, err := x.operand(rest, depth)
	if err != nil {
		return "", err
	}
	return turned(text, turns)
}

// operand answers what a part of that depth means where its identifier would
// mean the variable's value.
func (x *expander) operand(part string, depth int) (string, error) {
	if isIdentifier(part) {
		return x.value(part), nil
	}
	return x.expand(part, depth)
}

func (x *expander) value(name string) string {
	if i, ok := x.first[name]; ok {
		return x.vars[i].Value
	}
	return ""
}
