package keys

import (
	"unicode/utf8"

	"mullion/api"
)

// Decoder reads bytes as keys.
//
// What is held is the beginning of one key, and says by itself how the next
// byte is read: nothing else is kept. A byte completes one key at most.
type Decoder struct{ held []byte }

// New makes a decoder that holds nothing.
func New() *Decoder { return &Decoder{} }

// Feed takes bytes: the keys that are complete.
func (d *Decoder) Feed(chunk string) []api.Key {
	var told []api.Key
	for i := range len(chunk) {
		if k := d.take(chunk[i]); k.Code != api.KeyNone {
			told = append(told, k)
		}
	}
	return told
}

// Held are the bytes that may be the beginning of a key.
func (d *Decoder) Held() string { return string(d.held) }

// Flush reads what is held as it stands.
func (d *Decoder) Flush() []api.Key {
	var told []api.Key
	rest, mods := d.behindMeta()
	if mods != 0 && len(rest) == 0 {
		told = append(told, api.Key{Code: escape})
	}
	for _, b := range rest {
		if b >= utf8.RuneSelf {
			break
		}
		told = append(told, withMods(lone(b), mods))
		mods = 0
	}
	d.drop()
	return told
}

// take reads one byte; KeyNone: no key is complete.
func (d *Decoder) take(b byte) api.Key {
	switch string(d.held[:min(len(d.held), len(sequenceHead))]) {
	case sequenceHead:
		return d.takeSequence(b)
	case shiftHead:
		d.drop()
		return inShift(string(rune(b)))
	case escapeText:
		if b == '[' || b == 'O' {
			return d.hold(b)
		}
		return d.takeFirst(b) // a second ESC too: it is a key of one byte here
	case "":
		if b == escape {
			return d.hold(b)
		}
		return d.takeFirst(b)
	}
	return d.takeCharacter(b)
}

func (d *Decoder) hold(b byte) api.Key {
	d.held = append(d.held, b)
	return api.Key{}
}

func (d *Decoder) drop() { d.held = d.held[:0] }

// again reads a byte that does not go on with what is held, which is let go.
func (d *Decoder) again(b byte) api.Key {
	d.drop()
	return d.take(b)
}

// takeSequence takes a byte behind ESC and [.
func (d *Decoder) takeSequence(b byte) api.Key {
	switch {
	case b < blank || b >= bspace:
		return d.again(b)
	case b < '@':
		d.hold(b)
		if len(d.held) == api.MaxSequence {
			d.drop()
		}
		return api.Key{}
	}
	k := inSequence(string(d.held[len(sequenceHead):]), string(rune(b)))
	d.drop()
	return k
}

// takeFirst takes the first byte of a key that is no sequence, behind ESC or
// behind nothing.
func (d *Decoder) takeFirst(b byte) api.Key {
	if b >= utf8.RuneSelf {
		return d.takeCharacter(b)
	}
	_, mods := d.behindMeta()
	d.drop()
	return withMods(lone(b), mods)
}

// takeCharacter takes a byte of a character that has several. What can't become
// one counts as full, as early as that can be seen.
func (d *Decoder) takeCharacter(b byte) api.Key {
	d.hold(b)
	character, mods := d.behindMeta()
	if !utf8.FullRune(character) {
		return api.Key{}
	}
	r, size := utf8.DecodeRune(character)
	if size < len(character) {
		return d.again(b)
	}
	d.drop()
	if size == 1 || !isCharacter(int(r)) {
		return api.Key{}
	}
	return withMods(api.Key{Code: int(r)}, mods)
}

// behindMeta is what is held behind an ESC, and what that ESC adds to its key;
// if there is no ESC, all of it, and nothing.
func (d *Decoder) behindMeta() ([]byte, int) {
	if len(d.held) > 0 && d.held[0] == escape {
		return d.held[1:], api.ModMeta
	}
	return d.held, 0
}

func withMods(k api.Key, mods int) api.Key {
	k.Mods |= mods
	return k
}

// lone is the key whose only byte it is, of those below 128.
func lone(b byte) api.Key {
	code := int(b)
	switch {
	case code >= blank, code == tab, code == enter, code == escape:
		return api.Key{Code: code}
	case code == controlByte(blank):
		return api.Key{Code: blank, Mods: api.ModCtrl}
	case code <= controlByte('z'):
		return api.Key{Code: code - controlByte('a') + 'a', Mods: api.ModCtrl}
	}
	return api.Key{Code: code - controlByte('\\') + '\\', Mods: api.ModCtrl}
}
