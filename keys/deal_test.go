package keys

import (
	"math/rand"
	"strings"

	"mullion/api"
)

// dealer makes keys and bytes by chance.
type dealer struct{ *rand.Rand }

func dealt(seed int) dealer { return dealer{rand.New(rand.NewSource(int64(seed)))} }

// character is the code of one, near the bounds more often.
func (d dealer) character() int {
	for {
		code := d.Intn(1114112)
		switch d.Intn(5) {
		case 0:
			code = 33 + d.Intn(94)
		case 1:
			code = 155 + d.Intn(2000)
		case 2:
			bounds := []int{160, 2047, 2048, 4095, 4096, 55295, 57344, 65533, 65535, 65536, 262143, 262144, 1114111}
			code = bounds[d.Intn(len(bounds))]
		}
		if characterRows(code) != nil {
			return code
		}
	}
}

// row is any key.
func (d dealer) row() row {
	if d.Intn(4) == 0 {
		return characterRows(d.character())[d.Intn(2)]
	}
	return chapter.few[d.Intn(len(chapter.few))]
}

// staying is a key that can be followed by any other one.
func (d dealer) staying() row {
	for {
		if r := d.row(); stays(r.name) {
			return r
		}
	}
}

// stays tells of all keys but those that the chapter leaves out of lists.
func stays(name string) bool { return name != "Escape" && name != "M-[" && name != "M-O" }

// told is a key's bytes, of either kind.
func (d dealer) told(r row) string {
	if d.Intn(2) == 0 {
		return r.app
	}
	return r.plain
}

// sequence is a control sequence, with or without an end.
func (d dealer) sequence() string {
	const inside = "0123456789;;15~ ?<:"
	n := d.Intn(6)
	if d.Intn(20) == 0 {
		n = 240 + d.Intn(30)
	}
	var b strings.Builder
	b.WriteString("\x1b[")
	for range n {
		b.WriteByte(inside[d.Intn(len(inside))])
	}
	if d.Intn(4) > 0 {
		b.WriteByte("ABCDFHPQRSZX~~~~@"[d.Intn(17)])
	}
	return b.String()
}

// text is bytes that may come.
func (d dealer) text() string {
	switch d.Intn(8) {
	case 0, 1:
		return d.told(d.row())
	case 2:
		told := d.told(d.row())
		return told[:d.Intn(len(told))]
	case 3:
		told := []byte(d.told(d.row()))
		told[d.Intn(len(told))] = byte(d.Intn(256))
		return string(told)
	case 4:
		return d.sequence()
	case 5:
		return string([]byte{byte(d.Intn(256))})
	case 6:
		return strings.Repeat("\x1b", d.Intn(4)) + string([]byte{edges[d.Intn(len(edges))], edges[d.Intn(len(edges))]})
	}
	character := encoded(128 + d.Intn(1114112-128))
	return character[:1+d.Intn(len(character))]
}

// stream is many texts.
func (d dealer) stream(n int) string {
	var b strings.Builder
	for range n {
		b.WriteString(d.text())
	}
	return b.String()
}

// pieces is a text cut by chance.
func (d dealer) pieces(text string) []string {
	var all []string
	for text != "" {
		n := min(len(text), d.Intn(1+d.Intn(40)))
		all = append(all, text[:n])
		text = text[n:]
	}
	return all
}

// keysOf is the keys of rows.
func keysOf(rows []row) []api.Key {
	var all []api.Key
	for _, r := range rows {
		all = append(all, r.key)
	}
	return all
}
