package format

import (
	"fmt"
	"math/big"
	"regexp"
	"strconv"
	"strings"
	"testing"

	"mullion/api"
)

// The chapter as regular expressions and a descent that gives up by a panic.
var (
	pieceOf     = regexp.MustCompile(`(?s)^(?:#[#,}{SWIPDF]|.)`)
	identifier  = regexp.MustCompile(`^[a-z][a-z0-9_]{0,31}$`)
	comparison  = regexp.MustCompile(`^(?:==|!=|<|>|<=|>=|m)$`)
	junction    = regexp.MustCompile(`^(?:\|\||&&)$`)
	calculation = regexp.MustCompile(`^e\|(\+|-|\*|/|m|==|<|>)\|$`)
	wholeNumber = regexp.MustCompile(`^-?(?:0|[1-9][0-9]*)$`)
	oneTurn     = `(?:[=p]-?[0-9]{1,4}|[bdnuw]|s/[^/;:]+/[^/;:]*/)`
	allTurns    = regexp.MustCompile(`^` + oneTurn + `(?:;` + oneTurn + `)*$`)
	lastSlash   = regexp.MustCompile(`(?s)^(.*)/(.*)$`)
	shortNames  = map[string]string{"#S": "session_name", "#W": "window_name", "#I": "window_index", "#P": "pane_index", "#D": "pane_id", "#F": "window_flags"}
)

// What a text says.
type answer struct {
	said string
	err  api.Errno
}

func (a answer) String() string { return fmt.Sprintf("%q, error %d", a.said, a.err) }

func expanded(f string, vars []api.Var) answer {
	said, err := Expand(f, vars)
	return answer{said, err}
}

// A fault of the model, as it is thrown.
type thrown api.Errno

func check(holds bool, e api.Errno) {
	if !holds {
		panic(thrown(e))
	}
}

func expect(f string, vars []api.Var) (a answer) {
	defer func() {
		switch r := recover().(type) {
		case nil:
		case thrown:
			a = answer{"", api.Errno(r)}
		default:
			panic(r)
		}
	}()
	return answer{model(vars).text(f, 0), api.OK}
}

type model []api.Var

func (m model) value(name string) string {
	for _, v := range m {
		if v.Name == name {
			return v.Value
		}
	}
	return ""
}

func (m model) text(text string, depth int) string {
	said := ""
	for text != "" {
		p := pieceOf.FindString(text)
		behind := text[len(p):]
		switch {
		case p == "#{":
			var ok bool
			behind, ok = behindPlace(text)
			check(ok, api.ErrFormat)
			check(depth < 16, api.ErrDeep)
			said += m.inside(text[2:len(text)-len(behind)-1], depth+1)
		case shortNames[p] != "":
			said += m.value(shortNames[p])
		default:
			said += p[len(p)-width(p):]
		}
		check(len(said) <= 1024, api.ErrLong)
		text = behind
	}
	return said
}

// width answers how many bytes at the end of a piece it says.
func width(p string) int {
	if p == "##" || p == "#," || p == "#}" {
		return 1
	}
	return len(p)
}

// behindPlace answers what stands behind the place with which a text begins.
func behindPlace(text string) (string, bool) {
	text = text[2:]
	for text != "" {
		p := pieceOf.FindString(text)
		if p == "#{" {
			behind, ok := behindPlace(text)
			if !ok {
				return "", false
			}
			text = behind
			continue
		}
		text = text[len(p):]
		if p == "}" {
			return text, true
		}
	}
	return "", false
}

func partsOf(text string) []string {
	parts := []string{""}
	for text != "" {
		p := pieceOf.FindString(text)
		if p == "#{" {
			behind, _ := behindPlace(text)
			p = text[:len(text)-len(behind)]
		}
		text = text[len(p):]
		if p == "," {
			parts = append(parts, "")
		} else {
			parts[len(parts)-1] += p
		}
	}
	return parts
}

func (m model) operand(part string, depth int) string {
	if identifier.MatchString(part) {
		return m.value(part)
	}
	return m.text(part, depth)
}

func (m model) inside(inside string, depth int) string {
	if strings.HasPrefix(inside, "?") {
		parts := partsOf(inside[1:])
		check(len(parts) == 2 || len(parts) == 3, api.ErrFormat)
		if isTrue(m.operand(parts[0], depth)) {
			return m.text(parts[1], depth)
		}
		return m.text(append(parts, "")[2], depth)
	}
	colon := strings.Index(inside, ":")
	if colon < 0 {
		check(identifier.MatchString(inside), api.ErrFormat)
		return m.value(inside)
	}
	return m.headed(inside[:colon], inside[colon+1:], depth)
}

func (m model) headed(name, rest string, depth int) string {
	switch {
	case name == "l":
		return rest
	case name == "!":
		return oneIf(!isTrue(m.operand(rest, depth)))
	case allTurns.MatchString(name):
		text := m.operand(rest, depth)
		for _, t := range strings.Split(name, ";") {
			text = turnOf(t, text)
			check(len(text) <= 1024, api.ErrLong)
		}
		return text
	}
	means := m.operand
	if comparison.MatchString(name) {
		means = m.text
	} else {
		check(junction.MatchString(name) || calculation.MatchString(name), api.ErrFormat)
	}
	parts := partsOf(rest)
	check(len(parts) == 2, api.ErrFormat)
	a := means(parts[0], depth)
	b := means(parts[1], depth)
	if c := calculation.FindStringSubmatch(name); c != nil {
		return calculated(c[1], a, b)
	}
	return oneIf(told(name, a, b))
}

func told(name, a, b string) bool {
	switch name {
	case "==", "<=", ">=":
		if a == b {
			return true
		}
	}
	switch name {
	case "!=":
		return a != b
	case "<", "<=":
		return strings.Compare(a, b) < 0
	case ">", ">=":
		return strings.Compare(a, b) > 0
	case "m":
		return isOfPattern(a, b)
	case "||":
		return isTrue(a) || isTrue(b)
	case "&&":
		return isTrue(a) && isTrue(b)
	}
	return false
}

func isTrue(s string) bool { return len(s) > 1 || len(s) == 1 && s[0] != 48 }

func oneIf(is bool) string { return map[bool]string{true: "1", false: "0"}[is] }

func calculated(operator, first, second string) string {
	most := new(big.Int).Lsh(big.NewInt(1), 62)
	var n [2]*big.Int
	for i, s := range []string{first, second} {
		check(wholeNumber.MatchString(s), api.ErrFormat)
		n[i], _ = new(big.Int).SetString(s, 10)
		check(n[i].CmpAbs(most) <= 0, api.ErrFormat)
	}
	a, b, out := n[0], n[1], new(big.Int)
	switch operator {
	case "==":
		return oneIf(a.Cmp(b) == 0)
	case "<":
		return oneIf(a.Cmp(b) < 0)
	case ">":
		return oneIf(a.Cmp(b) > 0)
	case "+":
		out.Add(a, b)
	case "-":
		out.Sub(a, b)
	case "*":
		out.Mul(a, b)
	case "/":
		check(b.Sign() != 0, api.ErrFormat)
		out.Quo(a, b)
	case "m":
		check(b.Sign() != 0, api.ErrFormat)
		out.Rem(a, b)
	}
	check(out.CmpAbs(most) <= 0, api.ErrFormat)
	return out.String()
}

func turnOf(t, text string) string {
	n, _ := strconv.Atoi(strings.Trim(t, "=p-"))
	slash := lastSlash.FindStringSubmatch(text)
	switch {
	case strings.HasPrefix(t, "=-"):
		for len(text) > n {
			text = text[1:]
		}
	case strings.HasPrefix(t, "="):
		for len(text) > n {
			text = text[:len(text)-1]
		}
	case strings.HasPrefix(t, "p-"):
		for len(text) < n {
			text = " " + text
		}
	case strings.HasPrefix(t, "p"):
		for len(text) < n {
			text += " "
		}
	case t == "b" && slash != nil:
		return slash[2]
	case t == "d" && slash == nil:
		return "."
	case t == "d" && slash[1] == "":
		return "/"
	case t == "d":
		return slash[1]
	case t == "n":
		return fmt.Sprint(len(text))
	case t == "u":
		return lettersFrom(text, 97, -32)
	case t == "w":
		return lettersFrom(text, 65, 32)
	case strings.HasPrefix(t, "s/"):
		x := strings.Split(t, "/")
		return strings.Join(strings.Split(text, x[1]), x[2])
	}
	return text
}

// lettersFrom moves the 26 letters that begin there.
func lettersFrom(text string, begin, by int) string {
	out := []byte(text)
	for i := range out {
		if d := int(out[i]) - begin; d >= 0 && d < 26 {
			out[i] += byte(by)
		}
	}
	return string(out)
}

// isOfPattern asks a regular expression that is put together from the pattern;
// it runs over texts in which each byte is one character.
func isOfPattern(pattern, s string) bool { return patternOf(pattern).MatchString(wide(s)) }

var (
	plainSet = regexp.MustCompile(`(?s)^\[([^!][^\]]*)\]`)
	notSet   = regexp.MustCompile(`(?s)^\[!(.[^\]]*)\]`)
	members  = regexp.MustCompile(`(?s).-.|.`)
)

func patternOf(pattern string) *regexp.Regexp {
	left := wide(pattern)
	out := `(?s)\A`
	for left != "" {
		length := 1
		first := []rune(left)[0]
		switch {
		case first == '*':
			out += `.*`
		case first == '?':
			out += `.`
		case first == '\\' && left != `\`:
			second := []rune(left)[1]
			out += oneRune(second)
			length = len(`\` + string(second))
		case plainSet.MatchString(left):
			found := plainSet.FindStringSubmatch(left)
			out += `[^` + outOf(found[1], false) + `]`
			length = len(found[0])
		case notSet.MatchString(left):
			found := notSet.FindStringSubmatch(left)
			out += `[^` + outOf(found[1], true) + `]`
			length = len(found[0])
		default:
			out += oneRune(first)
			length = len(string(first))
		}
		left = left[length:]
	}
	return regexp.MustCompile(out + `\z`)
}

func oneRune(r rune) string { return fmt.Sprintf(`\x{%x}`, r) }

// outOf writes the bytes that a set of these members does not take, and one
// that is no byte's character, lest there be none.
func outOf(text string, not bool) string {
	var stand [256]bool
	for _, m := range members.FindAllString(text, -1) {
		r := []rune(m)
		for b := r[0]; b <= r[len(r)-1]; b++ {
			stand[b] = true
		}
	}
	out := oneRune(1000)
	for b, is := range stand {
		if is == not {
			out += oneRune(rune(b))
		}
	}
	return out
}

func wide(s string) string {
	var out []rune
	for i := range len(s) {
		out = append(out, rune(s[i]))
	}
	return string(out)
}

// variables are those of the chapter's examples and some more.
func variables() []api.Var {
	return []api.Var{
		{Name: "window_index", Value: "3"}, {Name: "window_name", Value: "a/b"}, {Name: "window_zoomed_flag", Value: "1"},
		{Name: "pane_id", Value: "%7"}, {Name: "empty"}, {Name: "session_name", Value: "work"}, {Name: "pane_index", Value: "12"},
		{Name: "window_flags", Value: "*Z"}, {Name: "no", Value: "0"}, {Name: "zeros", Value: "00"}, {Name: "path", Value: "/usr/local/bin"},
		{Name: "twice", Value: "first"}, {Name: "twice", Value: "second"}, {Name: "hash", Value: "#{empty},##}"}, {Name: "minus", Value: "-40"},
		{Name: "long", Value: strings.Repeat("0123456789abcde/", 125)}, {Name: "a", Value: "Zz"}, {Name: "most", Value: "4611686018427387904"},
	}
}

func wantSays(t *testing.T, f, want string) {
	t.Helper()
	if got := expanded(f, variables()); got != (answer{want, api.OK}) {
		t.Errorf("%q says %v, and not %q", shorter(f), got, shorter(want))
	}
	hold(t, f, variables())
}

func wantFault(t *testing.T, f string, want api.Errno) {
	t.Helper()
	if got := expanded(f, variables()); got != (answer{"", want}) {
		t.Errorf("%q says %v, and not error %d", shorter(f), got, want)
	}
	hold(t, f, variables())
}

// hold holds Expand against the model.
func hold(t *testing.T, f string, vars []api.Var) {
	t.Helper()
	if got, want := expanded(f, vars), expect(f, vars); got != want {
		t.Fatalf("%q says %v, and not %v", shorter(f), got, want)
	}
}

func shorter(s string) string {
	if len(s) > 300 {
		return s[:150] + " ... " + s[len(s)-150:]
	}
	return s
}
