package lex

import (
	"strings"
	"testing"

	"mullion/api"
)

// The chapter's examples.
func TestX1Examples(t *testing.T) {
	wantCommands(t, `new-window -n "a b" ; split-window -h`, of("new-window", "-n", "a b"), of("split-window", "-h"))
	wantCommands(t, `a;b`, of("a"), of("b"))
	wantCommands(t, `;;a;`, of("a"))
	wantCommands(t, ``)
	wantCommands(t, `x 'a;b' \; "c\"d\n\101"`, of("x", "a;b", ";", "c\"d\nA"))
	wantCommands(t, `a'b'"c"d\ e`, of("abcd e"))
	wantCommands(t, `''`, of(""))
	wantCommands(t, `a # b`, of("a"))
	wantCommands(t, `a#b`, of("a#b"))
	wantCommands(t, `#{x}`, of("#{x}"))
	wantCommands(t, `#x`)
	wantCommands(t, `"\400"`, of("400"))
}

func TestX1Blanks(t *testing.T) {
	for _, b := range []string{" ", "\t", "  ", "\t\t", " \t", "\t \t "} {
		wantCommands(t, "a"+b+"b", of("a", "b"))
		wantCommands(t, b+"a", of("a"))
		wantCommands(t, "a"+b, of("a"))
		wantCommands(t, b)
		wantCommands(t, `'a'`+b+`"b"`+b+`\c`, of("a", "b", "c"))
		wantCommands(t, `'a`+b+`b' "a`+b+`b"`, of("a"+b+"b", "a"+b+"b"))
	}
	wantCommands(t, "a\nb\rc\vd\fe\x00f\u00a0g", of("a\nb\rc\vd\fe\x00f\u00a0g"))
}

// All bytes but those that the chapter names are a word's, at its beginning and behind it.
func TestX1EveryOtherByte(t *testing.T) {
	for i := range 256 {
		b := string([]byte{byte(i)})
		if strings.Contains(" \t;'\"\\", b) {
			continue
		}
		wantCommands(t, "a"+b+"c "+b, of("a"+b+"c", b)[:2-strings.Count(b, "#")])
		if b != "#" {
			wantCommands(t, b, of(b))
			wantCommands(t, b+"x;"+b, of(b+"x"), of(b))
		}
	}
}

func TestX1Semicolons(t *testing.T) {
	for _, line := range []string{"a;b", "a ;b", "a; b", "a ; b", "a\t;\tb", ";a;b;", ";;a;;b;;", " ; ;a; ; b ; "} {
		wantCommands(t, line, of("a"), of("b"))
	}
	wantCommands(t, `a b;c d`, of("a", "b"), of("c", "d"))
	wantCommands(t, `'a';"b";\c;d`, of("a"), of("b"), of("c"), of("d"))
	wantCommands(t, `a';'b`, of("a;b"))
	wantCommands(t, `a";"b`, of("a;b"))
	wantCommands(t, `"a\;b"`, of("a;b"))
	wantCommands(t, `a\;b`, of("a;b"))
	wantCommands(t, `a \; b`, of("a", ";", "b"))
	wantCommands(t, `a \;; b`, of("a", ";"), of("b"))
	wantCommands(t, `\\;a`, of(`\`), of("a"))
}

func TestX1Remarks(t *testing.T) {
	for _, line := range []string{"#", "# ", "#a", "##", "##{", "# {", " #", "\t#x", ";#x", " ; # a ; b", `#'`, `#"`, `#\`, `# a "b\`, "#;a"} {
		wantCommands(t, line)
	}
	for _, line := range []string{"a #", "a\t#b", "a;#b", "a ;# b ; c", `a # '`, `a # "`, `a #\`, "a #;b", "a # #{b}"} {
		wantCommands(t, line, of("a"))
	}
	wantCommands(t, "a#", of("a#"))
	wantCommands(t, "a# b", of("a#", "b"))
	wantCommands(t, "a##b#", of("a##b#"))
	wantCommands(t, "''#x", of("#x"))
	wantCommands(t, `""#x`, of("#x"))
	wantCommands(t, `\#x`, of("#x"))
	wantCommands(t, `'#x' "#y"`, of("#x", "#y"))
	wantCommands(t, "#{", of("#{"))
	wantCommands(t, "#{ #", of("#{"))
	wantCommands(t, "#{#x #{;#{y}", of("#{#x", "#{"), of("#{y}"))
	wantCommands(t, "a #{b c}", of("a", "#{b", "c}"))
	wantCommands(t, `#{'a b'}`, of("#{a b}"))
	wantCommands(t, `#'{'`)
}

func TestX1SingleQuotes(t *testing.T) {
	for i := range 256 {
		b := string([]byte{byte(i)})
		if b == "'" {
			continue
		}
		wantCommands(t, "'"+b+"'", of(b))
		wantCommands(t, "'x"+b+"y' z", of("x"+b+"y", "z"))
	}
	wantCommands(t, `'a\nb\101\\'`, of(`a\nb\101\\`))
	wantCommands(t, `'a\'`, of(`a\`))
	wantCommands(t, `'a\' b`, of(`a\`, "b"))
	wantCommands(t, `'a"b' c`, of(`a"b`, "c"))
}

func TestX1DoubleQuotes(t *testing.T) {
	for i := range 256 {
		b := string([]byte{byte(i)})
		if b == `"` || b == `\` {
			continue
		}
		wantCommands(t, `"`+b+`"`, of(b))
		wantCommands(t, `"x`+b+`y" z`, of("x"+b+"y", "z"))
	}
	wantCommands(t, `"a'b" c`, of("a'b", "c"))
	wantCommands(t, `"a\\" b`, of(`a\`, "b"))
	wantCommands(t, `"a\"" b`, of(`a"`, "b"))
	wantCommands(t, `"a\\\" b"`, of(`a\" b`))
}

// In double quotes a backslash stands ahead of every byte.
func TestX1EscapesInDoubleQuotes(t *testing.T) {
	short := map[byte]string{'n': "\n", 't': "\t", 'r': "\r", 'e': "\x1b"}
	for i := range 256 {
		b := string([]byte{byte(i)})
		want, ok := short[byte(i)]
		if !ok {
			want = b
		}
		wantCommands(t, `"\`+b+`"`, of(want))
		wantCommands(t, `"x\`+b+`y\`+b+`" z`, of("x"+want+"y"+want, "z"))
	}
	wantCommands(t, `"\n\t\r\e"`, of("\n\t\r\x1b"))
	wantCommands(t, `"\N\T\R\E\a\b\v\f\x41"`, of("NTREabvfx41"))
}

func TestX1OctalInDoubleQuotes(t *testing.T) {
	const digits = "01234567"
	for v := range 512 {
		d := string([]byte{digits[v>>6], digits[v>>3&7], digits[v&7]})
		want := d
		if v <= 255 {
			want = string([]byte{byte(v)})
		}
		wantCommands(t, `"\`+d+`"`, of(want))
		wantCommands(t, `"x\`+d+`7`+`\`+d+`" y`, of("x"+want+"7"+want, "y"))
	}
	for _, d := range []string{"0", "1", "7", "00", "10", "77", "0 1", "08", "018", "081", "800", "189", "1a1", "01\xff"} {
		wantCommands(t, `"\`+d+`"`, of(d))
		wantCommands(t, `"\`+d+`x" y`, of(d+"x", "y"))
	}
	wantCommands(t, `"\01"1`, of("011"))
	wantCommands(t, `"\1\n1"`, of("1\n1"))
	wantCommands(t, `"\1\101"`, of("1A"))
	wantCommands(t, `"\377\000"`, of("\xff\x00"))
	wantCommands(t, `"\042\134\047"`, of(`"\'`))
}

// Outside of quotes a backslash stands ahead of every byte: there is no octal and no short form.
func TestX1BackslashOutsideOfQuotes(t *testing.T) {
	for i := range 256 {
		b := string([]byte{byte(i)})
		wantCommands(t, `\`+b, of(b))
		wantCommands(t, `x\`+b+`y z`, of("x"+b+"y", "z"))
		wantCommands(t, `x \`+b+`;z`, of("x", b), of("z"))
	}
	wantCommands(t, `\101\012 \n`, of("101012", "n"))
	wantCommands(t, `\\\\ a`, of(`\\`, "a"))
	wantCommands(t, `\'a\' \"b\"`, of("'a'", `"b"`))
}

func TestX1PiecesSideBySide(t *testing.T) {
	wantCommands(t, `'a''b'`, of("ab"))
	wantCommands(t, `"a""b"`, of("ab"))
	wantCommands(t, `'a'"b"\cd`, of("abcd"))
	wantCommands(t, `x'a b'y"c d"z\ w`, of("xa byc dz w"))
	wantCommands(t, `'a'\''b'`, of("a'b"))
	wantCommands(t, `"'"'"'`, of(`'"`))
	wantCommands(t, `a''`, of("a"))
	wantCommands(t, `""a`, of("a"))
}

func TestX1EmptyPieces(t *testing.T) {
	for _, line := range []string{`''`, `""`, `''''`, `''""`, ` '' `, `"";`, `;''`, `'' # a`} {
		wantCommands(t, line, of(""))
	}
	wantCommands(t, `'' ""`, of("", ""))
	wantCommands(t, `a '' b`, of("a", "", "b"))
	wantCommands(t, `'';""`, of(""), of(""))
}

func TestX1CommandsOfNoWords(t *testing.T) {
	for _, line := range []string{"", " ", "\t", ";", ";;", " ; ", "\t;\t;\t", "# a", "; # a", strings.Repeat(";", api.MaxLine), strings.Repeat(" ", api.MaxLine)} {
		wantCommands(t, line)
	}
	wantCommands(t, strings.Repeat(" ;", 500)+"a"+strings.Repeat("; ", 500)+"b", of("a"), of("b"))
}

// Every line of up to six bytes that mean something to the reader.
func TestX1AllShortLines(t *testing.T) {
	const bytes = " ;#{'\"\\1n"
	var grow func(line string, more int)
	grow = func(line string, more int) {
		hold(t, line)
		for i := 0; i < len(bytes) && more > 0; i++ {
			grow(line+bytes[i:i+1], more-1)
		}
	}
	grow("", 6)
	for i := range 256 {
		for j := range 256 {
			hold(t, string([]byte{byte(i), byte(j)}))
		}
	}
}

func TestX1LongRunOfLines(t *testing.T) {
	m := newMaker(1)
	good := 0
	for range 60000 {
		if hold(t, m.bytes(40)).err == api.OK {
			good++
		}
	}
	if good < 2000 {
		t.Errorf("only %d lines of the run are read without an error", good)
	}
}

// Commands whose words are spelt by chance, so that what they are is known without reading.
func TestX1LinesThatAreSpelt(t *testing.T) {
	m := newMaker(2)
	for range 20000 {
		c := m.commands()
		line := m.line(c)
		wantCommands(t, line, c...)
		hold(t, line)
	}
}

func TestX2LongLines(t *testing.T) {
	long := strings.Repeat("a", api.MaxLine)
	wantCommands(t, long, of(long))
	wantCommands(t, long[2:]+" b", of(long[2:], "b"))
	wantCommands(t, "#"+long[1:])
	for _, line := range []string{long + "a", long + " ", long + ";", " " + long, "#" + long, strings.Repeat(" ", api.MaxLine+1), strings.Repeat("a", 1<<20)} {
		wantError(t, line, 0, api.ErrLong)
	}
}

func TestX2QuotesThatDoNotEnd(t *testing.T) {
	for _, q := range []string{"'", `"`} {
		wantError(t, q, 0, api.ErrQuote)
		wantError(t, q+"a b;c # d", 0, api.ErrQuote)
		wantError(t, "a "+q+"b", 2, api.ErrQuote)
		wantError(t, "a;"+q, 2, api.ErrQuote)
		wantError(t, "abc"+q+"d", 3, api.ErrQuote)
		wantError(t, q+q+q, 2, api.ErrQuote)
		wantError(t, q+"a"+q+q+"b", 3, api.ErrQuote)
		wantError(t, q+"a"+q+" x "+q+"b"+q+";"+q+"c", 10, api.ErrQuote)
		wantError(t, `\`+q+q, 2, api.ErrQuote)
		wantError(t, "#{"+q, 2, api.ErrQuote)
		wantError(t, strings.Repeat("a", api.MaxLine-1)+q, api.MaxLine-1, api.ErrQuote)
	}
	wantError(t, `'a"b`, 0, api.ErrQuote)
	wantError(t, `"a'b`, 0, api.ErrQuote)
	wantError(t, `'a'"b`, 3, api.ErrQuote)
	wantError(t, `"a\"`, 0, api.ErrQuote)
	wantError(t, `x "a\"b\"`, 2, api.ErrQuote)
	wantError(t, `"\"\101\n`, 0, api.ErrQuote)
	wantError(t, `"\10`, 0, api.ErrQuote)
	wantError(t, `"\101`, 0, api.ErrQuote)
	wantError(t, `'a\`, 0, api.ErrQuote)
	wantError(t, `x 'a\`, 2, api.ErrQuote)
}

func TestX2BackslashAtTheEnd(t *testing.T) {
	wantError(t, `\`, 0, api.ErrQuote)
	wantError(t, `a b\`, 3, api.ErrQuote)
	wantError(t, `a \`, 2, api.ErrQuote)
	wantError(t, `a;\`, 2, api.ErrQuote)
	wantError(t, `\\\`, 2, api.ErrQuote)
	wantError(t, `'a'\`, 3, api.ErrQuote)
	wantError(t, `"a"\`, 3, api.ErrQuote)
	wantError(t, `a "b\`, 2, api.ErrQuote)
	wantError(t, `"\`, 0, api.ErrQuote)
	wantError(t, `ab"\\\`, 2, api.ErrQuote)
	wantError(t, `"a" "b\`, 4, api.ErrQuote)
	wantError(t, strings.Repeat("a", api.MaxLine-1)+`\`, api.MaxLine-1, api.ErrQuote)
	wantCommands(t, `a\\`, of(`a\`))
	wantCommands(t, `'a\'`, of(`a\`))
	wantCommands(t, `a # \`, of("a"))
}

// words gives a line of so many words, and what it is read as.
func words(n int) (string, []string) {
	return strings.Repeat("w ", n), strings.Fields(strings.Repeat("w ", n))
}

func TestX2Limits(t *testing.T) {
	line, want := words(api.MaxWords)
	wantCommands(t, line, want)
	wantError(t, line+"w", 0, api.ErrWords)
	wantError(t, line+"''", 0, api.ErrWords)
	wantError(t, line+";w", 0, api.ErrWords)
	wantError(t, "w;"+line, 0, api.ErrWords)
	wantCommands(t, line+" ; ; # w w", want)
	first, one := words(api.MaxWords - 1)
	wantCommands(t, first+";w", one, of("w"))
	wantError(t, first+";w;w", 0, api.ErrWords)
	wantError(t, strings.Repeat("w ", api.MaxLine/2), 0, api.ErrWords)

	many := make([][]string, api.MaxCommands)
	for i := range many {
		many[i] = of("w")
	}
	line = strings.Repeat("w;", api.MaxCommands)
	wantCommands(t, line, many...)
	wantCommands(t, ";"+line+";; ; # w", many...)
	wantError(t, line+"w", 0, api.ErrWords)
	wantError(t, line+"''", 0, api.ErrWords)
	wantError(t, strings.Repeat("w;", api.MaxLine/2), 0, api.ErrWords)

	wantError(t, strings.Repeat("w w w w;", api.MaxCommands)+"w", 0, api.ErrWords)
	for i := range many {
		many[i] = of("w", "w", "w", "w")
	}
	wantCommands(t, strings.Repeat("w w w w;", api.MaxCommands), many...)
}

// The error that the chapter names first is the answer.
func TestX2WhichErrorFirst(t *testing.T) {
	line, _ := words(api.MaxWords + 1)
	wantError(t, line+"'", len(line), api.ErrQuote)
	wantError(t, line+`x"\`, len(line)+1, api.ErrQuote)
	wantError(t, line+`\`, len(line), api.ErrQuote)
	wantError(t, strings.Repeat("a;", api.MaxCommands+1)+"'", 2*api.MaxCommands+2, api.ErrQuote)
	wantError(t, strings.Repeat("a;", api.MaxLine)+"'", 0, api.ErrLong)
	wantError(t, strings.Repeat("a", api.MaxLine)+`\`, 0, api.ErrLong)
	wantError(t, strings.Repeat("a", api.MaxLine)+"'", 0, api.ErrLong)
}

// Lines near the limits, made by chance.
func TestX2LongRunNearTheLimits(t *testing.T) {
	m := newMaker(3)
	seen := map[api.Errno]int{}
	for range 1500 {
		var line string
		for range api.MaxCommands - 3 + m.Intn(6) {
			for range 1 + m.Intn(7) {
				line += m.spell(m.bytes(3)) + m.blanks(1)
			}
			line += ";"
		}
		if m.chance(20) {
			line += m.bytes(3)
		}
		seen[hold(t, line).err]++
	}
	for range 40 {
		line := strings.Repeat("a", api.MaxLine-20) + m.line(m.commands())
		seen[hold(t, line).err]++
	}
	for _, e := range []api.Errno{api.OK, api.ErrLong, api.ErrQuote, api.ErrWords} {
		if seen[e] < 10 {
			t.Errorf("the error %d was met %d times only", e, seen[e])
		}
	}
}
