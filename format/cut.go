package format

import "mullion/api"

// insideLength answers how many bytes of a text stand ahead of the } that ends
// the place whose inside begins there, and whether there is such an end.
func insideLength(text string) (int, bool) {
	open := 1
	for at := 0; at < len(text); {
		length, opened := pass(text[at:])
		open += opened
		if open == 0 {
			return at, true
		}
		at += length
	}
	return 0, false
}

// cutAtCommas cuts a text at the commas that stand in no place of it.
func cutAtCommas(text string) []string {
	var parts []string
	begin, open := 0, 0
	for at := 0; at < len(text); {
		if text[at] == ',' && open == 0 {
			parts = append(parts, text[begin:at])
			begin = at + 1
		}
		length, opened := pass(text[at:])
		open += opened
		at += length
	}
	return append(parts, text[begin:])
}

// pass answers how many bytes at the beginning of a text are gone past at once,
// and how many more places are open behind them. The text is not empty.
func pass(text string) (length, opened int) {
	switch {
	case text[0] == '}':
		return 1, -1
	case text[0] != '#' || len(text) == 1:
		return 1, 0
	}
	switch text[1] {
	case '{':
		return 2, 1
	case '#', ',', '}':
		return 2, 0
	}
	return 1, 0
}

func isIdentifier(text string) bool {
	if text == "" || len(text) > api.MaxName || !isSmall(text[0]) {
		return false
	}
	for i := 1; i < len(text); i++ {
		if !isSmall(text[i]) && !isDigit(text[i]) && text[i] != '_' {
			return false
		}
	}
	return true
}

func isSmall(b byte) bool { return 'a' <= b && b <= 'z' }

func isGreat(b byte) bool { return 'A' <= b && b <= 'Z' }

func isDigit(b byte) bool { return '0' <= b && b <= '9' }
