package keys

import (
	"strconv"
	"strings"
	"testing"

	"mullion/api"
)

// beginnings are all kinds of what may be held, the bounds of each among them.
func beginnings() []string {
	all := []string{"", "\x1b", "\x1bO", "\x1b["}
	for _, body := range []string{"1", "2", "1;", "1;5", "1;1", "1;9", "1;5;", "2;5", "3;8", "4", "11", "11;2", "14", "15", "15;2", "16", "24", "24;9", "?25", "<0;1;1", ";", ";5", " ", "01", "1;05", "1:5", "99"} {
		all = append(all, "\x1b["+body)
	}
	for _, n := range []int{100, 250, 251, 252, 253} {
		all = append(all, "\x1b["+strings.Repeat("1", n), "\x1b[1;5"+strings.Repeat(" ", n-3))
	}
	for _, character := range []string{
		"\xc2", "\xc3", "\xdf", "\xe0", "\xe0\xa0", "\xe0\xbf", "\xe1", "\xe1\x80", "\xec\xbf", "\xed", "\xed\x80", "\xed\x9f", "\xee", "\xef", "\xef\xbf",
		"\xf0", "\xf0\x90", "\xf0\xbf", "\xf0\x90\x80", "\xf1", "\xf1\x80", "\xf3\xbf\xbf", "\xf4", "\xf4\x80", "\xf4\x8f", "\xf4\x8f\xbf",
	} {
		all = append(all, character, "\x1b"+character)
	}
	return all
}

// probes are what may come behind, by which it is seen how the bytes ahead were read.
var probes = []string{"", "A", "a", "5~", ";5A", "~", "\x1b", "\x1b[A", "[A", "OP", "\x80", "\xa9", "\xbf\xbf", "\x80\x80\x80", "\xc3\xa9", "\x00", "\r", "\xff"}

// Every byte behind every beginning, and then probes.
func TestK2EveryByteBehindEveryBeginning(t *testing.T) {
	all := beginnings()
	spread(len(all)*256, func(i int) {
		held, b := all[i/256], string([]byte{byte(i)})
		for _, probe := range probes {
			begun(t).feed(held).feed(b).feed(probe).flush()
			begun(t).feed(held + b + probe).flush()
		}
		begun(t).bytes(held + b).flush().feed("a")
	})
}

func TestK2SequencesThatAreKeys(t *testing.T) {
	for text, name := range map[string]string{
		"A": "Up", "B": "Down", "C": "Right", "D": "Left", "H": "Home", "F": "End", "Z": "BTab",
		"1;2A": "S-Up", "1;3B": "M-Down", "1;4C": "M-S-Right", "1;5D": "C-Left", "1;6H": "C-S-Home", "1;7F": "C-M-End", "1;8A": "C-M-S-Up",
		"1;2P": "S-F1", "1;5Q": "C-F2", "1;8R": "C-M-S-F3", "1;3S": "M-F4",
		"2~": "Insert", "3~": "Delete", "5~": "PageUp", "6~": "PageDown", "2;2~": "S-Insert", "3;5~": "C-Delete", "5;3~": "M-PageUp", "6;8~": "C-M-S-PageDown",
		"15~": "F5", "17~": "F6", "18~": "F7", "19~": "F8", "20~": "F9", "21~": "F10", "23~": "F11", "24~": "F12", "15;2~": "S-F5", "24;8~": "C-M-S-F12",
		"1~": "Home", "4~": "End", "11~": "F1", "12~": "F2", "13~": "F3", "14~": "F4",
	} {
		wantRead(t, "\x1b["+text, name+" ", "", "")
		wantRead(t, "\x1b["+text+"a", name+" a ", "", "")
		wantRead(t, "x\x1b["+text+"\x1b["+text+"\x1b", "x "+name+" "+name+" ", "\x1b", "Escape ")
	}
}

func TestK2SequencesThatAreNone(t *testing.T) {
	for _, text := range []string{
		"@", "E", "G", "I", "O", "P", "Q", "R", "S", "[", "]", "`", "a", "z", "{", "}", "~", // F1 to F4 have no such form without Mods
		"1A", "2A", "1;A", ";5A", "1;1A", "1;9A", "1;0A", "1;10A", "1;12A", "1;05A", "01;5A", "2;5A", "1;5;A", "1;5;5A", "1:5A", "1;5 A", " A", "?1;5A", "1;;5A", "1;5E", "1;5G",
		"1;1P", "1;9P", "1P", "2;2P", "11P", "11;2P",
		"0~", "7~", "8~", "9~", "10~", "16~", "22~", "25~", "99~", "02~", "2;~", "2;1~", "2;9~", "2;10~", ";2~", "2;2;2~", "2 ~", "?2~", "2$~", "2;5^", "215~",
		"1;2~", "4;2~", "11;2~", "14;5~", "1;1~",
		"1Z", "1;2Z", ";Z", " Z", "0Z", "99X", "<0;1;1M", "M", "200~", "201~",
	} {
		wantRead(t, "\x1b["+text+"xy", "x y ", "", "")
	}
}

// Every number, with every Mods, and every byte as the end.
func TestK2SequencesEveryNumber(t *testing.T) {
	seconds := []string{"", ";"}
	for m := range 13 {
		seconds = append(seconds, ";"+strconv.Itoa(m), ":"+strconv.Itoa(m), ";0"+strconv.Itoa(m), ";"+strconv.Itoa(m)+";")
	}
	spread(41, func(i int) {
		first := strconv.Itoa(i)
		if i == 40 {
			first = ""
		}
		for _, second := range seconds {
			for last := 64; last < 127; last++ {
				begun(t).feed("\x1b[" + first + second + string(rune(last)) + "a").flush()
				begun(t).feed("\x1b[0" + first + second + string(rune(last)) + "a").flush()
			}
		}
	})
}

// A byte that is neither of a sequence nor its end is read anew.
func TestK2SequenceCutOff(t *testing.T) {
	for _, body := range []string{"", "1", "1;5", "15", strings.Repeat("0", 253)} {
		begin := "\x1b[" + body
		wantRead(t, begin+"\x00A", "C-Space A ", "", "")
		wantRead(t, begin+"\rA", "Enter A ", "", "")
		wantRead(t, begin+"\tA", "Tab A ", "", "")
		wantRead(t, begin+"\x01A", "C-a A ", "", "")
		wantRead(t, begin+"\x18A", "C-x A ", "", "")
		wantRead(t, begin+"\x1fA", "C-_ A ", "", "")
		wantRead(t, begin+"\x7fA", "BSpace A ", "", "")
		wantRead(t, begin+"\x80A", "A ", "", "")
		wantRead(t, begin+"\xffA", "A ", "", "")
		wantRead(t, begin+"\xc3", "", "\xc3", "")
		wantRead(t, begin+"\xc3\xa9A", "\u00e9 A ", "", "")
		wantRead(t, begin+"\x1b", "", "\x1b", "Escape ")
		wantRead(t, begin+"\x1bA", "M-A ", "", "")
		wantRead(t, begin+"\x1b[A", "Up ", "", "")
		wantRead(t, begin+"\x1b\x1b[A", "M-Escape [ A ", "", "")
	}
}

func TestK2SequenceTooLong(t *testing.T) {
	if api.MaxSequence != 256 {
		t.Fatalf("MaxSequence is %d", api.MaxSequence)
	}
	for _, fill := range []string{"0", "1", ";", " ", "?", "/"} {
		with := func(n int) string { return "\x1b[" + strings.Repeat(fill, n) }
		name := fill + " "
		if fill == " " {
			name = "Space "
		}
		wantRead(t, with(252), "", with(252), "M-[ "+strings.Repeat(name, 252))
		wantRead(t, with(253), "", with(253), "M-[ "+strings.Repeat(name, 253))
		wantRead(t, with(254), "", "", "")
		wantRead(t, with(255), name, "", "")
		wantRead(t, with(257)+"A", strings.Repeat(name, 3)+"A ", "", "")
		wantRead(t, with(252)+"AB", "B ", "", "")
		wantRead(t, with(253)+"AB", "B ", "", "")
		wantRead(t, with(254)+"AB", "A B ", "", "")
		wantRead(t, with(253)+"\x1b[A", "Up ", "", "")
		wantRead(t, with(254)+"\x1b[A", "Up ", "", "")
		wantRead(t, with(254)+with(254)+"~", "~ ", "", "")
		wantRead(t, with(254)+with(253), "", with(253), "M-[ "+strings.Repeat(name, 253))
	}
}

func TestK2ShiftEveryByte(t *testing.T) {
	keys := map[byte]string{'A': "Up ", 'B': "Down ", 'C': "Right ", 'D': "Left ", 'H': "Home ", 'F': "End ", 'P': "F1 ", 'Q': "F2 ", 'R': "F3 ", 'S': "F4 "}
	for i := range 256 {
		b := byte(i)
		told := "\x1bO" + string([]byte{b})
		wantRead(t, told, keys[b], "", "")
		wantRead(t, told+"a", keys[b]+"a ", "", "")
		wantRead(t, told+"[A", keys[b]+"[ A ", "", "")
	}
	wantRead(t, "\x1bO\xc3\xa9a", "a ", "", "")
	wantRead(t, "\x1bO\x1b\x1b", "", "\x1b", "Escape ")
	wantRead(t, "\x1bO1;5P", "; 5 P ", "", "")
}

func TestK2TwoEscapes(t *testing.T) {
	wantRead(t, "\x1b\x1b", "M-Escape ", "", "")
	wantRead(t, "\x1b\x1b\x1b", "M-Escape ", "\x1b", "Escape ")
	wantRead(t, "\x1b\x1b\x1b\x1b", "M-Escape M-Escape ", "", "")
	wantRead(t, "\x1b\x1b[A", "M-Escape [ A ", "", "")
	wantRead(t, "\x1b\x1bOA", "M-Escape O A ", "", "")
	wantRead(t, "\x1b\x1b\x1b[A", "M-Escape Up ", "", "")
	wantRead(t, "\x1b\x1b\x1bOA", "M-Escape Up ", "", "")
	wantRead(t, "\x1b\x1b\xc3\xa9", "M-Escape \u00e9 ", "", "")
}

// oneByteNames are the keys of one byte, by their byte; that of 27 is held.
func oneByteNames() [128]string {
	var names [128]string
	for i := 1; i < 27; i++ {
		names[i] = "C-" + string(rune('a'+i-1))
	}
	for i := 33; i < 127; i++ {
		names[i] = string(rune(i))
	}
	names[0], names[9], names[13], names[32], names[127] = "C-Space", "Tab", "Enter", "Space", "BSpace"
	names[28], names[29], names[30], names[31] = `C-\`, "C-]", "C-^", "C-_"
	return names
}

func TestK2OneByte(t *testing.T) {
	for b, name := range oneByteNames() {
		if text := string(rune(b)); b != 27 {
			wantRead(t, text, name+" ", "", "")
			wantRead(t, text+text+"a"+text, name+" "+name+" a "+name+" ", "", "")
		}
	}
	for b := 128; b < 256; b++ {
		held := ""
		if b >= 0xc2 && b <= 0xf4 {
			held = string([]byte{byte(b)})
		}
		wantRead(t, string([]byte{byte(b)}), "", held, "")
		wantRead(t, string([]byte{byte(b), 'A'}), "A ", "", "")
	}
}

func TestK2EscapeAndOneByte(t *testing.T) {
	for b, name := range oneByteNames() {
		name = "M-" + name
		if rest, ok := strings.CutPrefix(name, "M-C-"); ok {
			name = "C-M-" + rest
		}
		if text := "\x1b" + string(rune(b)); b != 27 && b != '[' && b != 'O' {
			wantRead(t, text, name+" ", "", "")
			wantRead(t, text+"a"+text, name+" a "+name+" ", "", "")
		}
	}
	for b := 128; b < 256; b++ {
		text, held := "\x1b"+string([]byte{byte(b)}), ""
		if b >= 0xc2 && b <= 0xf4 {
			held = text
		}
		wantRead(t, text, "", held, "")
		wantRead(t, text+"A", "A ", "", "")
		wantRead(t, text+"\x1b", "", "\x1b", "Escape ")
	}
}

func TestK2Characters(t *testing.T) {
	for _, c := range []struct {
		text, names, held string
	}{
		{"\xc2\x80", "", ""}, {"\xc2\x85", "", ""}, {"\xc2\x9f", "", ""}, {"\xc2\xa0", "\u00a0 ", ""}, {"\xc2\xbf", "\u00bf ", ""},
		{"\xc3\xa9", "\u00e9 ", ""}, {"\xdf\xbf", "\u07ff ", ""}, {"\xe0\xa0\x80", "\u0800 ", ""}, {"\xed\x9f\xbf", "\ud7ff ", ""}, {"\xee\x80\x80", "\ue000 ", ""},
		{"\xef\xbf\xbd", "\ufffd ", ""}, {"\xef\xbf\xbf", "\uffff ", ""}, {"\xf0\x90\x80\x80", "\U00010000 ", ""}, {"\xf4\x8f\xbf\xbf", "\U0010ffff ", ""},
		{"\xc3", "", "\xc3"}, {"\xe0\xa0", "", "\xe0\xa0"}, {"\xf0\x90\x80", "", "\xf0\x90\x80"}, {"\xf4\x8f\xbf", "", "\xf4\x8f\xbf"},
		// not as short as can be, surrogates, too great: seen at the first byte that can't be there
		{"\xc0", "", ""}, {"\xc1", "", ""}, {"\xc0\x80", "", ""}, {"\xc1\xbf", "", ""}, {"\xe0\x80", "", ""}, {"\xe0\x9f", "", ""}, {"\xe0\x9f\xbf", "", ""},
		{"\xf0\x80", "", ""}, {"\xf0\x8f\xbf\xbf", "", ""}, {"\xed\xa0", "", ""}, {"\xed\xa0\x80", "", ""}, {"\xed\xbf\xbf", "", ""}, {"\xf4\x90", "", ""}, {"\xf4\x90\x80\x80", "", ""},
		{"\xf5", "", ""}, {"\xf5\x80\x80\x80", "", ""}, {"\xfe", "", ""}, {"\xff", "", ""}, {"\x80", "", ""}, {"\xbf\xbf", "", ""}, {"\xf8\x88\x80\x80\x80", "", ""},
		{"\xed\xa0\xbd\xed\xb8\x80", "", ""},
		// cut off by what comes
		{"\xc3A", "A ", ""}, {"\xe0\xa0A", "A ", ""}, {"\xf0\x90\x80A", "A ", ""}, {"\xc3\r", "Enter ", ""}, {"\xc3\x00", "C-Space ", ""}, {"\xc3\x7f", "BSpace ", ""}, {"\xc3 ", "Space ", ""},
		{"\xc3\xc3", "", "\xc3"}, {"\xc3\xc3\xa9", "\u00e9 ", ""}, {"\xe0\xa0\xc3\xa9", "\u00e9 ", ""}, {"\xf0\x90\x80\xf0\x90\x80\x80", "\U00010000 ", ""}, {"\xe0\xe0\xa0\x80", "\u0800 ", ""},
		{"\xc3\xff", "", ""}, {"\xf0\x90\x80\xffA", "A ", ""}, {"\xe2\x80\xc0A", "A ", ""}, {"\xe0\x80A", "A ", ""}, {"\xed\xa0\xc3\xa9", "\u00e9 ", ""},
		{"\xc3\x1b", "", "\x1b"}, {"\xc3\x1bA", "M-A ", ""}, {"\xf0\x90\x1b[A", "Up ", ""}, {"\xc3[A", "[ A ", ""}, {"\xe0\xa0OA", "O A ", ""},
	} {
		wantRead(t, c.text, c.names, c.held, flushedNames(c.held))
		wantRead(t, "x"+c.text, "x "+c.names, c.held, flushedNames(c.held))
	}
}

func flushedNames(held string) string {
	if held == "\x1b" {
		return "Escape "
	}
	return ""
}

// The same with ESC ahead: it goes with what is dropped, and does not cling to
// what is read anew.
func TestK2EscapeAndCharacters(t *testing.T) {
	for _, c := range []struct {
		text, names, held string
	}{
		{"\xc2\xa0", "M-\u00a0 ", ""}, {"\xc3\xa9", "M-\u00e9 ", ""}, {"\xe0\xa0\x80", "M-\u0800 ", ""}, {"\xef\xbf\xbd", "M-\ufffd ", ""}, {"\xf4\x8f\xbf\xbf", "M-\U0010ffff ", ""},
		{"\xc3\xa9\xc3\xa9", "M-\u00e9 \u00e9 ", ""}, {"\xc2\x80", "", ""}, {"\xc2\x9f", "", ""}, {"\xc2\x85A", "A ", ""}, {"\xc2\x85\xc3\xa9", "\u00e9 ", ""},
		{"\xc3", "", "\x1b\xc3"}, {"\xe0\xa0", "", "\x1b\xe0\xa0"}, {"\xf0\x90\x80", "", "\x1b\xf0\x90\x80"},
		{"\xc3A", "A ", ""}, {"\xe0\xa0A", "A ", ""}, {"\xf0\x90\x80A", "A ", ""}, {"\xc3\r", "Enter ", ""}, {"\xc3\x00", "C-Space ", ""},
		{"\xc3\xc3", "", "\xc3"}, {"\xc3\xc3\xa9", "\u00e9 ", ""}, {"\xe0\xa0\xc3\xa9", "\u00e9 ", ""}, {"\xc3\xff", "", ""}, {"\xc3\xffA", "A ", ""},
		{"\xffA", "A ", ""}, {"\x80A", "A ", ""}, {"\xc0A", "A ", ""}, {"\xff\xc3\xa9", "\u00e9 ", ""}, {"\xc0\x80", "", ""}, {"\xe0\x80", "", ""}, {"\xe0\x80A", "A ", ""}, {"\xed\xa0\x80", "", ""}, {"\xf4\x90\x80\x80A", "A ", ""},
		{"\xc3\x1b", "", "\x1b"}, {"\xc3\x1bA", "M-A ", ""}, {"\xc3\x1b[A", "Up ", ""}, {"\xff\x1b", "", "\x1b"}, {"\xff\x1b\x1b", "M-Escape ", ""}, {"\xff[A", "[ A ", ""}, {"\xc3OA", "O A ", ""},
	} {
		wantRead(t, "\x1b"+c.text, c.names, c.held, flushedNames(c.held))
		wantRead(t, "\x1b[A\x1b"+c.text, "Up "+c.names, c.held, flushedNames(c.held))
	}
}

// edges are the bytes at which the reading of characters and of sequences turns.
const edges = "\x00\x09\x1a\x1b\x1c\x1f !1;?@AOZ[~\x7f\x80\x8f\x90\x9f\xa0\xbf\xc0\xc1\xc2\xdf\xe0\xe1\xec\xed\xee\xef\xf0\xf1\xf3\xf4\xf5\xff"

// fewEdges are the edges of which longer texts are made.
const fewEdges = "\x00\x1b !1;A[O~\x7f\x80\x9f\xa0\xbf\xc0\xc3\xe0\xed\xf0\xf4\xff"

// Every two bytes, every three of the edges, every four of few of them; with ESC
// ahead and without.
func TestK2EveryShortText(t *testing.T) {
	read := func(bytes ...byte) {
		begun(t).bytes(string(bytes)).flush()
		begun(t).bytes("\x1b" + string(bytes)).flush()
	}
	spread(256, func(i int) {
		for j := range 256 {
			read(byte(i), byte(j))
		}
	})
	spread(len(edges), func(i int) {
		for j := range len(edges) * len(edges) {
			read(edges[i], edges[j/len(edges)], edges[j%len(edges)])
		}
	})
	n := len(fewEdges)
	spread(n*n, func(i int) {
		for j := range n * n {
			read(fewEdges[i/n], fewEdges[i%n], fewEdges[j/n], fewEdges[j%n])
		}
	})
}

// Every code point, those that are no keys too.
func TestK2EveryCodePoint(t *testing.T) {
	spread(1114112-128, func(i int) {
		code := 128 + i
		if code >= 55296 && code <= 57343 {
			return
		}
		d := New()
		told := d.Feed(encoded(code) + "\x1b" + encoded(code))
		good := len(told) == 0
		if code >= 160 {
			good = len(told) == 2 && told[0] == api.Key{Code: code} && told[1] == api.Key{Code: code, Mods: 2}
		}
		if !good || d.Held() != "" {
			t.Errorf("%#x: tells %s and holds %q", code, listOf(told), d.Held())
		}
	})
}

// Every key is told at its last byte, and not behind it.
func TestK2AsEarlyAsCanBe(t *testing.T) {
	for _, r := range chapter.few {
		switch r.name {
		case "Escape", "M-[", "M-O":
			continue
		}
		for _, text := range []string{r.plain, r.app} {
			d := New()
			for i := range len(text) - 1 {
				if told := d.Feed(text[i : i+1]); len(told) > 0 || d.Held() != text[:i+1] {
					t.Errorf("behind %q: tells %s, holds %q", text[:i+1], listOf(told), d.Held())
				}
			}
			if told := d.Feed(text[len(text)-1:]); listOf(told) != r.name+" " || d.Held() != "" {
				t.Errorf("behind %q: tells %s, holds %q", text, listOf(told), d.Held())
			}
		}
	}
}
