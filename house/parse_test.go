package house

import (
	"fmt"
	"strings"
	"testing"

	"mullion/api"
)

const begin = "server 80 24 100\n"

var config = api.Config{W: 80, H: 24, Tail: 100}

// wantParsed holds Parse against what is wanted, and that against the tests' own reading.
func wantParsed(t *testing.T, text string, want parsed) {
	t.Helper()
	if own := read(text); own.String() != want.String() {
		t.Fatalf("the tests themselves read %.200q as\n%.400s\nand not as\n%.400s", text, own, want)
	}
	if got := parse(text); got.String() != want.String() {
		t.Errorf("Parse(%.200q):\n%.400s\nand not\n%.400s", text, got, want)
	}
}

// wantEntry asks for one entry of a line, whether or not the line has its end.
func wantEntry(t *testing.T, line string, want api.Entry) {
	t.Helper()
	for _, end := range []string{"", "\n"} {
		wantParsed(t, begin+line+end, parsed{c: config, l: []api.Entry{want}})
		wantParsed(t, begin+"tick\n"+line+end, parsed{c: config, l: []api.Entry{{Kind: api.InTick}, want}})
	}
}

// wantFault asks for an error at the last of these lines.
func wantFault(t *testing.T, err api.Errno, lines ...string) {
	t.Helper()
	text := strings.Join(lines, "\n")
	for _, behind := range []string{"", "\n", "\ntick\n", "\nnothing\n", "\n" + begin} {
		wantParsed(t, text+behind, parsed{n: len(lines), err: err})
	}
}

func TestP181EachKindOfLine(t *testing.T) {
	const top = "4611686018427387904"
	wantEntry(t, "attach 1 1000", api.Entry{Kind: api.InAttach, Client: 1, N: 1000})
	wantEntry(t, "attach 0 0", api.Entry{Kind: api.InAttach})
	wantEntry(t, "attach "+top+" "+top, api.Entry{Kind: api.InAttach, Client: api.MaxNumber, N: api.MaxNumber})
	wantEntry(t, "detach 3", api.Entry{Kind: api.InDetach, Client: 3})
	wantEntry(t, "detach "+top, api.Entry{Kind: api.InDetach, Client: api.MaxNumber})
	wantEntry(t, `input 1 new -s work\012`, api.Entry{Kind: api.InInput, Client: 1, Text: "new -s work\n"})
	wantEntry(t, "input 7 x", api.Entry{Kind: api.InInput, Client: 7, Text: "x"})
	wantEntry(t, "drain 1 999", api.Entry{Kind: api.InDrain, Client: 1, N: 999})
	wantEntry(t, "drain 2 0", api.Entry{Kind: api.InDrain, Client: 2})
	wantEntry(t, `output 5 a\134b`, api.Entry{Kind: api.InOutput, Pane: 5, Text: `a\b`})
	wantEntry(t, "done 5", api.Entry{Kind: api.InDone, Pane: 5})
	wantEntry(t, "tick", api.Entry{Kind: api.InTick})
}

// A text goes up to the line's end, with all its blanks; it may be empty.
func TestP181Texts(t *testing.T) {
	for text, want := range map[string]string{
		"": "", " ": " ", "  ": "  ", " a": " a", "a b": "a b", "a ": "a ", "#": "#", "1 2 3": "1 2 3", "tick": "tick", `\012`: "\n", `\012\012`: "\n\n", `\000`: "\x00", `\037`: "\x1f",
		`\134`: `\`, `\134012`: `\012`, "%1": "%1", "\x7f": "\x7f", "\x80\xff": "\x80\xff", "ä": "ä", `"\042`: "", `\040`: "",
	} {
		if want == "" && text != "" {
			wantFault(t, api.ErrScript, "server 80 24 100", "input 1 "+text)
			continue
		}
		wantEntry(t, "input 1 "+text, api.Entry{Kind: api.InInput, Client: 1, Text: want})
		wantEntry(t, "output 2 "+text, api.Entry{Kind: api.InOutput, Pane: 2, Text: want})
	}
	for b := range 256 {
		one := string([]byte{byte(b)})
		wantEntry(t, "input 1 "+escaped(one), api.Entry{Kind: api.InInput, Client: 1, Text: one})
		if b != '\n' && escaped(one) != one {
			wantFault(t, api.ErrScript, "server 80 24 100", "output 1 "+one)
		}
		if code := fmt.Sprintf(`\%03o`, b); code != escaped(one) {
			wantFault(t, api.ErrScript, "server 80 24 100", "output 1 "+code)
		}
	}
}

// Texts may be longer than a line of the wire, and longer than an entry that a server takes.
func TestP181LongTexts(t *testing.T) {
	for _, n := range []int{api.MaxLine, api.MaxLine + 1, api.MaxChunk, api.MaxChunk + 1, 300000} {
		text := strings.Repeat("\n", n)
		if 4*n > api.MaxScript {
			text = strings.Repeat("x", n)
		}
		e := api.Entry{Kind: api.InInput, Client: 1, Text: text}
		if c, l, number, err := Parse(printed(config, e)); c != config || len(l) != 1 || l[0] != e || number != 0 || err != api.OK {
			t.Errorf("a text of %d bytes: %d entries, line %d, error %d", n, len(l), number, err)
		}
	}
}

// wrongLines are none of a script, in each way.
func wrongLines() map[string][]string {
	return map[string][]string{
		"words missing":  {"server", "server 1", "server 1 2", "attach", "attach 1", "attach ", "attach 1 ", "detach", "detach ", "input", "input ", "input 1", "drain", "drain 1", "drain 1 ", "output", "output ", "output 1", "done", "done "},
		"too many words": {"server 1 2 3 4", "server 1 2 3 ", "attach 1 2 3", "detach 1 2", "drain 1 2 3", "done 1 2", "tick 1", "tick tick"},
		"blanks": {" ", "  ", " tick", "tick ", " attach 1 2", "attach  1 2", "attach 1  2", "attach 1 2 ", "detach  1", "detach 1 ", "input  1 a", "drain 1  2", "drain 1 2 ", "output  1 a", "done  1", "done 1 ",
			" server 1 2 3", "server  1 2 3", "server 1  2 3", "attach\t1 2", "tick\t", "\ttick", "tick\r", "attach 1\r 2", "\r", " #", "\t# x"},
		"numbers that are none": {"attach x 1", "attach 1 x", "attach -1 1", "attach 1 -1", "attach +1 1", "attach 01 1", "attach 1 00", "attach 4611686018427387905 1", "attach 1 4611686018427387905", "attach 1 9223372036854775808",
			"attach 1 18446744073709551617", "attach 1 99999999999999999999999999", "attach 1 1e3", "attach 1 0x1", "attach 1 1_0", "attach 1 1.0", "detach $1", "detach x", "detach 1a", "input x a", "input -1 a", "input 01 a", "input $1 a",
			"drain 1 01", "drain x 1", "drain 1 -0", "output %1 a", "output 01 a", "output x a", "output  a", "done %1", "done -1", "done 4611686018427387905", "done x", "server x 2 3", "server 1 02 3", "server 1 2 -3", "server 1 2 4611686018427387905", "attach \\061 1"},
		"texts that are no escape": {`input 1 \`, `input 1 a\1`, `input 1 \12`, `input 1 \012\`, `input 1 \101`, `input 1 \040`, `input 1 \045`, `input 1 \133`, `input 1 \135`, `input 1 \177`, `input 1 \200`, `input 1 \412`, `input 1 \512`, `input 1 \n`, `input 1 \\`,
			`input 1 \0 12`, `input 1 \019`, `input 1 \0a2`, "input 1 \t", "input 1 a\x00", "input 1 a\r", "input 1 \x1f", `output 1 \`, `output 1 \101`, `output 1 a\101`, "output 1 \x00", "output 1 a\tb"},
		"unknown words": {"x", "-", "Tick", "TICK", "ticks", "tic", "Attach 1 2", "attached 1 2", "att 1 2", "detach1", "in 1 a", "open 1 2 3", "open 1 80 24", "keys 1 a", "see 1 2", "shut 1", "none", "nothing", "1", "0: ok", "inputs 1 a", "input-1 a",
			"server,", "Server 1 2 3", "servers 1 2 3", "\x00", "\xff", "\\043", "tick\x00", "\ufefftick", "\u00a0"},
	}
}

func TestP181EachWayOfBeingWrong(t *testing.T) {
	for name, lines := range wrongLines() {
		for _, line := range lines {
			t.Run(name, func(t *testing.T) {
				wantFault(t, api.ErrScript, line)
				wantFault(t, api.ErrScript, "# server 1 2 3", "", line)
				wantFault(t, api.ErrScript, "server 80 24 100", line)
				wantFault(t, api.ErrScript, "", "server 80 24 100", "attach 1 2", "#", `input 1 a\012`, line)
			})
		}
	}
}

// A second server line is none, wherever it stands and whatever it says.
func TestP181SecondServer(t *testing.T) {
	wantFault(t, api.ErrScript, "server 80 24 100", "server 80 24 100")
	wantFault(t, api.ErrScript, "server 80 24 100", "server 1 1 1")
	wantFault(t, api.ErrScript, "server 80 24 100", "tick", "", "server 80 24 100")
}

// An entry ahead of the server line is none.
func TestP181EntryAheadOfTheServer(t *testing.T) {
	for _, line := range []string{"attach 1 1000", "detach 1", "input 1 a", "drain 1 1", "output 1 a", "done 1", "tick"} {
		wantFault(t, api.ErrScript, line)
		wantFault(t, api.ErrScript, "", "# a", line)
		wantParsed(t, line+"\n"+begin, parsed{n: 1, err: api.ErrScript})
		wantParsed(t, "#\n"+line+"\n"+begin+"tick\n", parsed{n: 2, err: api.ErrScript})
	}
}

// Empty lines and remarks say nothing, but are counted.
func TestP181LinesThatSayNothing(t *testing.T) {
	tick := api.Entry{Kind: api.InTick}
	wantParsed(t, "\n\n# a\n#\n"+begin+"\n#tick\ntick\n\n", parsed{c: config, l: []api.Entry{tick}})
	wantParsed(t, "#\\101\n# \x00\xff\t\n##\n"+begin+"tick\n# the end", parsed{c: config, l: []api.Entry{tick}})
	wantParsed(t, begin, parsed{c: config})
	wantParsed(t, strings.TrimSuffix(begin, "\n"), parsed{c: config})
	wantParsed(t, begin+"\n\n\n", parsed{c: config})
	wantParsed(t, begin+"#"+strings.Repeat("x", 100000), parsed{c: config})
	wantFault(t, api.ErrScript, "", "", "# a", "server 80 24 100", "", "tick", "#", "", "nothing")
}

// The numbers of a server line are any numbers: whether a server can be made is not asked.
func TestP181ServerLine(t *testing.T) {
	wantParsed(t, "server 0 0 0", parsed{})
	wantParsed(t, "server 1 2 3\n", parsed{c: api.Config{W: 1, H: 2, Tail: 3}})
	wantParsed(t, "server 4611686018427387904 1001 65537", parsed{c: api.Config{W: api.MaxNumber, H: 1001, Tail: 65537}})
}

func TestP181NoServerLine(t *testing.T) {
	for text, lines := range map[string]int{"": 0, "\n": 1, "\n\n": 2, "#": 1, "#\n": 1, "#\n#": 2, "# a\n\n": 2, "\n# a": 2, "#server 80 24 100\n": 1, "\n\n\n\n#": 5} {
		wantParsed(t, text, parsed{n: lines, err: api.ErrScript})
	}
}

// Of several faults the first line counts.
func TestP181FirstAtFault(t *testing.T) {
	wantParsed(t, "tick\nserver 1 1 x\n", parsed{n: 1, err: api.ErrScript})
	wantParsed(t, "server 1 1 x\ntick\n", parsed{n: 1, err: api.ErrScript})
	wantParsed(t, begin+"tick\nattach 1\nserver 1 1 1\ntick \n", parsed{n: 3, err: api.ErrScript})
	wantParsed(t, begin+"server 1 1 1\nattach 1\n", parsed{n: 2, err: api.ErrScript})
	wantParsed(t, "#\n\nnothing\n"+begin+"nothing", parsed{n: 3, err: api.ErrScript})
}

func TestP181LongestText(t *testing.T) {
	ahead := begin + "tick\n"
	room := api.MaxScript - len(ahead)
	for name, fill := range map[string]string{"a remark": "#" + strings.Repeat("x", room), "empty lines": strings.Repeat("\n", room+1), "a text": "output 1 " + strings.Repeat("x", room), "faults": strings.Repeat("x\n", room)} {
		text := ahead + fill
		c, l, n, err := Parse(text[:api.MaxScript])
		switch {
		case name == "faults" && (err != api.ErrScript || n != 3):
			t.Errorf("faults: line %d, error %d", n, err)
		case name != "faults" && (c != config || len(l) < 1 || n != 0 || err != api.OK):
			t.Errorf("MaxScript bytes, %s: %v, %d entries, line %d, error %d", name, c, len(l), n, err)
		}
		if got := parse(text[:api.MaxScript+1]); got.String() != (parsed{err: api.ErrLong}).String() {
			t.Errorf("one byte more than MaxScript, %s: %.200s", name, got)
		}
	}
	for _, text := range []string{strings.Repeat("\n", api.MaxScript+1), strings.Repeat("x", api.MaxScript+1), begin + strings.Repeat("tick\n", 300000)} {
		wantParsed(t, text, parsed{err: api.ErrLong})
	}
}

func TestP181MostEntries(t *testing.T) {
	full := begin + "# \n" + strings.Repeat("tick\n", api.MaxEntries)
	behind := api.MaxEntries + 3 // the number of the line behind
	if got := parse(full); got.err != api.OK || got.n != 0 || len(got.l) != api.MaxEntries {
		t.Fatalf("MaxEntries entries: %d, line %d, error %d", len(got.l), got.n, got.err)
	}
	for _, line := range []string{"\n", "# a\n", "\n#\n\n"} {
		if got := parse(full + line); got.err != api.OK || len(got.l) != api.MaxEntries {
			t.Errorf("MaxEntries entries and %q: %d, line %d, error %d", line, len(got.l), got.n, got.err)
		}
	}
	for _, line := range []string{"tick", "tick\n", "attach 1 2", "detach 1", "input 1 ", "drain 1 1", "output 1 a", "done 1", "tick\ntick\n", "tick\nnothing\n"} {
		wantParsed(t, full+line, parsed{n: behind, err: api.ErrFull})
	}
	wantParsed(t, full+"\n#\ntick", parsed{n: behind + 2, err: api.ErrFull})
	for _, line := range []string{"nothing", "server 80 24 100\n", "tick ", "attach 1", "nothing\ntick\n"} {
		wantParsed(t, full+line, parsed{n: behind, err: api.ErrScript})
	}
	wantParsed(t, begin+"nothing\n"+strings.Repeat("tick\n", api.MaxEntries+1), parsed{n: 2, err: api.ErrScript})
}

// All short lists of what means something to the reader, with a server line ahead and without.
func TestP181AllShortTexts(t *testing.T) {
	words := []string{"server", "tick", "done", "attach", "input", "drain", " ", "\n", "1", "01", "#", `\012`, "x"}
	var try func(text string, left int)
	try = func(text string, left int) {
		for _, ahead := range []string{"", begin, "server 1 1"} {
			if got, want := parse(ahead+text), read(ahead+text); got.String() != want.String() {
				t.Fatalf("Parse(%q):\n%s\nand not\n%s", ahead+text, got, want)
			}
		}
		for _, word := range words {
			if left > 0 {
				try(text+word, left-1)
			}
		}
	}
	try("", 3+times(10)/10)
	for _, ahead := range []string{"attach 1", "input 1", "drain 1 1", "output 1 "} {
		try(ahead, 3)
	}
}

// Scripts that are made by chance, and spoilt by chance.
func TestP181ByChance(t *testing.T) {
	a := newAuthor(1)
	count := map[api.Errno]int{}
	for range times(20000) {
		text := a.loose(a.config(), a.entries())
		if a.Intn(3) > 0 {
			text = a.spoilt(text)
		}
		got, want := parse(text), read(text)
		if got.String() != want.String() {
			t.Fatalf("Parse(%q):\n%s\nand not\n%s", text, got, want)
		}
		count[got.err]++
	}
	if least := times(2000); count[api.OK] < least || count[api.ErrScript] < least {
		t.Errorf("met: %v", count)
	}
}
