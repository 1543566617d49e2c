package lex

import (
	"fmt"
	"strings"
	"testing"

	"mullion/api"
)

// quoted says what the chapter asks of Quote.
func quoted(word string) string {
	if plainWord.MatchString(word) {
		return word
	}
	pairs := []string{`"`, `\"`, `\`, `\\`}
	for i := range 32 {
		pairs = append(pairs, string([]byte{byte(i)}), fmt.Sprintf(`\%03o`, i))
	}
	return `"` + strings.NewReplacer(pairs...).Replace(word) + `"`
}

func wantQuote(t *testing.T, word, want string) {
	t.Helper()
	if got := Quote(word); got != want {
		t.Errorf("Quote(%q) = %s, and should be %s", word, got, want)
	}
}

func TestX3Examples(t *testing.T) {
	wantQuote(t, "a-1", `a-1`)
	wantQuote(t, "", `""`)
	wantQuote(t, "a b\n\"", `"a b\012\""`)
	wantQuote(t, "#x", `"#x"`)
}

func TestX3EachByte(t *testing.T) {
	const plain = "abcdefghijklmnopqrstuvwxyzABCDEFGHIJKLMNOPQRSTUVWXYZ0123456789_./:=@%+,-"
	for i := range 256 {
		b := string([]byte{byte(i)})
		want := `"` + b + `"`
		switch {
		case strings.Contains(plain, b):
			want = b
		case b == `"` || b == `\`:
			want = `"\` + b + `"`
		case i < 32:
			want = fmt.Sprintf(`"\%o%o%o"`, i/64, i/8%8, i%8)
		}
		wantQuote(t, b, want)
		inside := want
		if strings.Contains(plain, b) {
			wantQuote(t, "x"+b+"y", "x"+b+"y")
			inside = `"` + b + `"`
		}
		wantQuote(t, " "+b, `" `+inside[1:])
		wantQuote(t, b+" ", inside[:len(inside)-1]+` "`)
	}
	wantQuote(t, plain, plain)
	wantQuote(t, plain+" ", `"`+plain+` "`)
	wantQuote(t, "#"+plain, `"#`+plain+`"`)
	wantQuote(t, "\x00\x01\x07\x08\x1f \x7f\x80\xff", "\"\\000\\001\\007\\010\\037 \x7f\x80\xff\"")
	wantQuote(t, `\101'`, `"\\101'"`)
}

func TestX3LongRun(t *testing.T) {
	m := newMaker(4)
	for range 20000 {
		word := m.bytes(20)
		wantQuote(t, word, quoted(word))
	}
}

func TestX4EveryShortWord(t *testing.T) {
	wantCommands(t, Quote(""), of(""))
	for i := range 256 {
		wantCommands(t, Quote(string([]byte{byte(i)})), of(string([]byte{byte(i)})))
		for j := range 256 {
			word := string([]byte{byte(i), byte(j)})
			wantCommands(t, Quote(word), of(word))
		}
	}
	// What stands behind a byte that is written in octal does not join it.
	for i := range 32 {
		for _, behind := range []string{"0", "7", "77", "777", "n", `\`, `"`} {
			word := string([]byte{byte(i)}) + behind
			wantCommands(t, Quote(word), of(word))
			wantCommands(t, Quote(behind+word), of(behind+word))
		}
	}
}

func TestX4LongRunOfWords(t *testing.T) {
	m := newMaker(5)
	for range 20000 {
		word := m.bytes(60)
		wantCommands(t, Quote(word), of(word))
	}
}

// quoteAll writes commands by Quote, with one blank between the words.
func quoteAll(commands [][]string, between string) string {
	var parts []string
	for _, c := range commands {
		var words []string
		for _, w := range c {
			words = append(words, Quote(w))
		}
		parts = append(parts, strings.Join(words, " "))
	}
	return strings.Join(parts, between)
}

func TestX4ListsOfWords(t *testing.T) {
	m := newMaker(6)
	for range 20000 {
		c := m.commands()
		for _, between := range []string{";", " ; "} {
			wantCommands(t, quoteAll(c, between), c...)
		}
	}
}

func TestX4BehindTheLimits(t *testing.T) {
	plain := strings.Repeat("x", api.MaxLine)
	wantCommands(t, Quote(plain), of(plain))
	wantError(t, Quote(plain+"x"), 0, api.ErrLong)
	blank := strings.Repeat(" ", api.MaxLine-2)
	wantCommands(t, Quote(blank), of(blank))
	wantError(t, Quote(blank+" "), 0, api.ErrLong)
	low := strings.Repeat("\x01", (api.MaxLine-2)/4)
	wantCommands(t, Quote(low), of(low))
	wantError(t, Quote(low+"\x01"), 0, api.ErrLong)

	many := make([]string, api.MaxWords)
	for i := range many {
		many[i] = strings.Repeat(";", i%5)
	}
	wantCommands(t, quoteAll([][]string{many}, ";"), many)
	wantError(t, quoteAll([][]string{append(many, "")}, ";"), 0, api.ErrWords)
	var one [][]string
	for range api.MaxCommands {
		one = append(one, of("", "#"))
	}
	wantCommands(t, quoteAll(one, ";"), one...)
	wantError(t, quoteAll(append(one, of("")), ";"), 0, api.ErrWords)
}
