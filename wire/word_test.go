package wire

import (
	"math/rand/v2"
	"slices"
	"strings"
	"testing"

	"mullion/api"
)

func wantWord(t *testing.T, text string, begins, whole bool) {
	t.Helper()
	if a, b := Word(text); a != begins || b != whole {
		t.Fatalf("Word(%q) = %v, %v; want %v, %v", short(text), a, b, begins, whole)
	}
}

func (g grammar) wantSame(t *testing.T, text string) {
	t.Helper()
	begins, whole := g.Word(text)
	wantWord(t, text, begins, whole)
}

// plainLines are everyday lines, one of every kind.
func plainLines() []string {
	var l []string
	for _, r := range rows {
		l = append(l, lineOf(plain(r.kind, r.line), r.line))
	}
	return l
}

// brokenLines are lines with one byte more, one less, or another one.
func brokenLines(line string) []string {
	const bytes = "%$@ \n\t\\0179abxzBEZ:-.,{]+=\x00\x1f\x7f\x80\xff"
	var all []string
	for i := range len(line) + 1 {
		for j := range len(bytes) {
			all = append(all, line[:i]+bytes[j:j+1]+line[i:])
			if i < len(line) {
				all = append(all, line[:i]+bytes[j:j+1]+line[i+1:])
			}
		}
		if i < len(line) {
			all = append(all, line[:i]+line[i+1:])
		}
	}
	return all
}

func TestW5ClassOfEveryKind(t *testing.T) {
	for _, r := range rows {
		line := lineOf(plain(r.kind, r.line), r.line)
		if got := Class(line); got != r.class {
			t.Errorf("Class(%q) = %d, want %d", line, got, r.class)
		}
	}
	for e, line := range goodEvents() {
		if got := Class(line); got != rows[e.Kind-1].class {
			t.Errorf("Class(%q) = %d, want %d", short(line), got, rows[e.Kind-1].class)
		}
	}
	if ClassNone != 0 || ClassTold != 1 || ClassBegin != 2 || ClassBody != 3 || ClassEnd != 4 || ClassExit != 5 {
		t.Error("the classes have other numbers than the chapter's")
	}
}

func TestW5ClassOfNoEvent(t *testing.T) {
	for _, line := range badLines {
		if got := Class(line); got != ClassNone {
			t.Errorf("Class(%q) = %d", line, got)
		}
	}
	g := newGrammar()
	for _, line := range plainLines() {
		for _, broken := range brokenLines(line) {
			if got, want := Class(broken), g.Class(broken); got != want {
				t.Fatalf("Class(%q) = %d, want %d", broken, got, want)
			}
		}
	}
}

func TestW6Words(t *testing.T) {
	for _, text := range []string{
		"",
		"%exit\n",
		"%exit why\n",
		"%message \n",
		"%begin 1 1 1\n%end 1 1 1\n",
		"%begin 1 1 1\n\n%end 1 1 1\n",
		"%begin 1 1 1\n\n\n\\045exit\n%error 2 2 0\n",
		"%begin 1 1 1\nhello\n%end 1 1 1\n",
		"%begin 1 1 1\n%end 1 1 1\n%begin 1 2 1\n%error 1 2 1\n%exit server exited\n",
		"%pane-add %1 0\n%begin 1 1 1\n%end 1 1 1\n%output %1 a\n%output %1 b\n",
	} {
		wantWord(t, text, true, true)
	}
}

func TestW6BeginningsThatEndAtALinesEnd(t *testing.T) {
	for _, text := range []string{"%begin 1 1 1\n", "%begin 1 1 1\nhello\n", "%begin 1 1 1\n\n", "%message \n%begin 1 1 1\nexit\n"} {
		wantWord(t, text, true, false)
	}
}

func TestW6BeginningsInTheMidstOfALine(t *testing.T) {
	const open = "%begin 1 1 1\n"
	for _, text := range []string{
		"%", "%e", "%exi", "%exit", "%exit ", "%exit w", `%exit \`, `%exit \1`, `%exit \13`, `%exit \0`, `%exit \01`,
		"%b", "%begin", "%begin ", "%begin 4611686018427387904", "%begin 1 ", "%begin 1 1 ", "%begin 1 1 1",
		"%output", "%output ", "%output %", "%output %2", "%output %2 ", "%output %2 a ", `%output %2 a\03`,
		"%window-add @1 a ", "%window-add @1 ", "%window-add @", "%session-", "%session-changed $12 x", "%message", "%message ",
		"%layout-change @1 0", "%layout-change @1 0 ", "%layout-change @1 0 1 ", "%layout-change @1 0 1 Z",
		"%subscription-changed w", "%subscription-changed w $1 @1 0 %1", "%subscription-changed w $1 @1 0 %1 :", "%subscription-changed w $1 @1 0 %1 : ",
		open + "%e", open + "%end", open + "%error 1 1 ", open + "x", open + `\`, open + `\0`, open + `\04`, open + `\1`, open + `x\13`, open + "hello\n%er",
	} {
		wantWord(t, text, true, false)
	}
}

func TestW6TextsThatNoWordBeginsWith(t *testing.T) {
	const open = "%begin 1 1 1\n"
	for _, text := range []string{
		"\n", "x", "hello\n", " ", "%%", "%E", "%ex ", "%exitx", "%exit\t", `%exit \2`, `%exit \14`, `%exit \04`,
		"%end", "%end 1 1 1\n", "%er", "%begin  ", "%begin 01", "%begin 4611686018427387905", "%begin -", "%begin 1 1 2", "%begin 1 1 1 ",
		"%output 2", "%output %0", "%output %2 \n", "%output  ", `%output %2 a\8`, `%output %2 \101`, "%output %2 \x1f",
		"%window-add @1  ", "%window-add @1 a:", "%window-link $1 10000", "%layout-change @1 g", "%layout-change @1  ", "%layout-change @1 0 1 z",
		"%subscription-changed w $1 @1 0 %1 x", "%subscription-changed w  ", "%subscription-changed w $1 @1 0 %1 :x",
		open + "%o", open + "%output %1 a\n", open + "%exit", open + "%exit\n", open + "%begin", open + "%m", open + `x\04`, open + `\04x`, open + `\05`, open + "\t",
		open + "%end 1 1 1\nx", open + "%end 1 1 1\n%end", open + "\x00\n%end 1 1 1\n",
	} {
		wantWord(t, text, false, false)
	}
}

func TestW6NothingBehindAnExit(t *testing.T) {
	for _, exit := range []string{"%exit\n", "%exit a b\n", "%begin 1 1 1\n%end 1 1 1\n%exit\n"} {
		wantWord(t, exit, true, true)
		for _, behind := range []string{"%", " ", "x", "\n", "%exit", "%exit\n", "%exit\n%exit\n", "%begin 1 1 1\n", "%message \n", "%e", "\x00"} {
			wantWord(t, exit+behind, false, false)
		}
	}
}

func TestW6LongestFields(t *testing.T) {
	g := newGrammar()
	x := func(n int) string { return strings.Repeat("x", n) }
	for _, text := range []string{
		"%output %1 " + x(255) + "\\", "%output %1 " + x(256), "%output %1 " + x(256) + "\\", "%output %1 " + x(257),
		"%output %1 " + strings.Repeat(`\012`, 255) + `\01`, "%output %1 " + strings.Repeat(`\012`, 256) + `\01`,
		"%message " + x(1023) + "\\1", "%message " + x(1024), "%message " + x(1024) + "\\1", "%message " + x(1025),
		"%exit " + x(1024), "%exit " + x(1024) + "\\", "%exit " + x(1025),
		"%subscription-changed w $1 @1 0 %1 : " + x(1024), "%subscription-changed w $1 @1 0 %1 : " + x(1025),
		"%layout-change @1 " + x(2048), "%layout-change @1 " + x(2049), "%layout-change @1 " + x(2048) + " " + x(2048), "%layout-change @1 " + x(2048) + " " + x(2049),
		"%window-add @1 " + x(31), "%window-add @1 " + x(31) + " ", "%window-add @1 " + x(30) + " ", "%window-add @1 " + x(32), "%window-add @1 " + x(33),
		"%subscription-changed " + x(32), "%subscription-changed " + x(33), "%begin 1 1 1\n" + x(9000), "%begin 1 1 1\n" + x(9000) + "\\",
	} {
		g.wantSame(t, text)
	}
	wantWord(t, "%window-add @1 "+x(31)+" ", false, false)
	wantWord(t, "%window-add @1 "+x(30)+" ", true, false)
	wantWord(t, "%output %1 "+x(256)+"\\", false, false)
	wantWord(t, "%output %1 "+x(255)+"\\", true, false)
	wantWord(t, "%begin 1 1 1\n"+x(100000)+"\n%end 1 1 1\n", true, true)
}

// Wherever a line was cut off, every byte may come behind it, outside of a block and inside.
func TestW6EveryByteBehindEveryBeginning(t *testing.T) {
	g := newGrammar()
	for _, place := range []string{"", "%begin 0 0 0\n"} {
		for _, line := range plainLines() {
			for i := range len(line) + 1 {
				for b := range 256 {
					g.wantSame(t, place+line[:i]+string([]byte{byte(b)}))
				}
			}
		}
	}
}

func TestW6BrokenLinesAmongOthers(t *testing.T) {
	g := newGrammar()
	for _, line := range plainLines() {
		for i, broken := range brokenLines(line) {
			switch i % 3 {
			case 0:
				g.wantSame(t, broken+"\n")
			case 1:
				g.wantSame(t, "%message \n"+broken)
			case 2:
				g.wantSame(t, "%begin 1 1 1\n"+broken+"\n%end 1 1 1\n%e")
			}
		}
	}
}

// scrambled are texts of lines in any order, some of them broken.
func scrambled(count int) []string {
	random := rand.New(rand.NewPCG(3, 10))
	lines := append(plainLines(), "", "x", "%exit", `\045end 1 1 1`, "%begin 1 1 1", "%end 1 1 1", "%begin 2 2 0", "%error 2 2 0", "%message ")
	var all []string
	for range count {
		var text strings.Builder
		for range random.IntN(6) {
			line := lines[random.IntN(len(lines))]
			if random.IntN(8) == 0 {
				broken := brokenLines(line)
				line = broken[random.IntN(len(broken))]
			}
			text.WriteString(line + "\n")
		}
		s := text.String()
		all = append(all, s[:len(s)-min(len(s), random.IntN(4))])
	}
	return all
}

func TestW6TextsOfAnyLines(t *testing.T) {
	g := newGrammar()
	for _, text := range scrambled(5000) {
		g.wantSame(t, text)
	}
}

// The lines of a few classes in every order, up to five of them.
func TestW6EveryOrderOfLines(t *testing.T) {
	classes := map[string]int{"%message m": ClassTold, "%begin 1 1 1": ClassBegin, "body": ClassBody, "%end 1 1 1": ClassEnd, "%error 1 1 1": ClassEnd, "%exit": ClassExit, "%": ClassNone}
	lines := []string{"%message m", "%begin 1 1 1", "body", "%end 1 1 1", "%error 1 1 1", "%exit", "%"}
	next := [][]string{{}}
	for range 5 {
		var longer [][]string
		for _, l := range next {
			for _, line := range lines {
				longer = append(longer, append(slices.Clone(l), line))
			}
		}
		for _, l := range longer {
			begins, whole := orderIsRight(l, classes)
			wantWord(t, strings.Join(l, "\n")+"\n", begins, whole)
		}
		next = longer
	}
}

// orderIsRight holds classes, as letters, against the pattern by taking blocks and notifications away.
func orderIsRight(lines []string, classes map[string]int) (begins, whole bool) {
	var letters strings.Builder
	for _, l := range lines {
		letters.WriteByte("?tbxep"[classes[l]])
	}
	s := strings.TrimSuffix(letters.String(), "p")
	exits := len(s) < len(lines)
	for {
		shorter := strings.TrimPrefix(s, "t")
		if inner, ok := strings.CutPrefix(s, "b"); ok {
			inner = strings.TrimLeft(inner, "x")
			if inner == "" {
				return !exits, false
			}
			if inner[0] != 'e' {
				return false, false
			}
			shorter = inner[1:]
		}
		if shorter == s {
			return s == "", s == ""
		}
		s = shorter
	}
}

func TestW9BeginningsOfBeginnings(t *testing.T) {
	texts := scrambled(400)
	for _, line := range plainLines() {
		texts = append(texts, line+"\n", "%begin 1 1 1\n"+line+"\n%end 0 0 0\n%exit\n")
	}
	for _, text := range texts {
		good := true
		for i := range len(text) + 1 {
			begins, whole := Word(text[:i])
			if whole && !begins {
				t.Fatalf("%q is a word and no beginning of one", text[:i])
			}
			if begins && !good {
				t.Fatalf("%q is a beginning of a word, and something that it begins with is none", text[:i])
			}
			good = begins
		}
	}
}

func TestW9EveryBeginningOfAWordIsOne(t *testing.T) {
	for e, line := range goodEvents() {
		word := line + "\n"
		if e.Kind == api.EvBody {
			word = "%begin 1 1 1\n" + word
		}
		if e.Kind == api.EvEnd || e.Kind == api.EvError {
			word = "%begin 1 1 1\n\n" + word
		}
		step := 1 + len(word)/200
		for i := 0; i < len(word); i += step {
			if begins, _ := Word(word[:i]); !begins {
				t.Fatalf("%q begins with %q, which is no beginning", short(word), short(word[:i]))
			}
		}
		wantWord(t, word, true, e.Kind != api.EvBody && e.Kind != api.EvBegin)
	}
}
