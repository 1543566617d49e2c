package format

import (
	"fmt"
	"math/rand"
	"strings"
	"testing"
	"time"

	"mullion/api"
)

func TestP102Truth(t *testing.T) {
	for _, s := range []string{"", "0"} {
		if Truth(s) {
			t.Errorf("%q is true", s)
		}
	}
	for _, s := range []string{"1", "00", "0 ", " 0", " ", "-0", "+0", "0.0", "0x0", "no", "false", "\x00", "\n", "０", "a", "000", strings.Repeat("0", 5000)} {
		if !Truth(s) {
			t.Errorf("%q is not true", s)
		}
	}
	for b := range 256 {
		if s := string([]byte{byte(b)}); Truth(s) != (s != "0") {
			t.Errorf("%q: %v", s, Truth(s))
		}
	}
}

func wantMatch(t *testing.T, pattern string, yes, no []string) {
	t.Helper()
	for _, s := range yes {
		if !Match(pattern, s) {
			t.Errorf("%q is not of %q", s, pattern)
		}
	}
	for _, s := range no {
		if Match(pattern, s) {
			t.Errorf("%q is of %q", s, pattern)
		}
	}
	model := patternOf(pattern)
	for _, s := range append(yes, no...) {
		if Match(pattern, s) != model.MatchString(wide(s)) {
			t.Errorf("%q and %q: the model says otherwise", pattern, s)
		}
	}
}

func TestP103PlainBytesAreTheWhole(t *testing.T) {
	wantMatch(t, "", []string{""}, []string{"a", " "})
	wantMatch(t, "abc", []string{"abc"}, []string{"", "ab", "abcd", "xabc", "ABC", "abd"})
	wantMatch(t, "a.c", []string{"a.c"}, []string{"abc"})
	wantMatch(t, "]", []string{"]"}, []string{"", "[", "]]"})
	wantMatch(t, "a-c!", []string{"a-c!"}, []string{"b!", "b"})
	wantMatch(t, "\xff\x00é", []string{"\xff\x00é"}, []string{"\xff\x00e", "\xfe\x00é"})
	wantMatch(t, "{a,b}", []string{"{a,b}"}, []string{"a", "b"})
}

func TestP103StarsAndMarks(t *testing.T) {
	wantMatch(t, "*", []string{"", "a", "abc", "\n", "a/b", "\xff", ".x"}, nil)
	wantMatch(t, "**", []string{"", "a", "abc"}, nil)
	wantMatch(t, "?", []string{"a", "\n", "\xff", "?", "*", "/"}, []string{"", "ab", "é"})
	wantMatch(t, "??", []string{"ab", "é"}, []string{"", "a", "abc"})
	wantMatch(t, "a*", []string{"a", "ab", "aa", "a*"}, []string{"", "ba", "b"})
	wantMatch(t, "*a", []string{"a", "ba", "aa", "aba"}, []string{"", "ab", "b"})
	wantMatch(t, "a*b*c", []string{"abc", "axxbyyc", "abcbc", "abbc", "aabbcc"}, []string{"axxbyy", "ac", "acb", "abcx", ""})
	wantMatch(t, "*ab", []string{"ab", "aab", "abab", "aaab"}, []string{"aba", "b", "a"})
	wantMatch(t, "*ab*ab", []string{"abab", "ababab", "abxab"}, []string{"ab", "aab", "aba"})
	wantMatch(t, "*?", []string{"a", "ab"}, []string{""})
	wantMatch(t, "?*?", []string{"ab", "abc"}, []string{"", "a"})
	wantMatch(t, "*aab*b", []string{"aabb", "aaabb", "aabxb", "aabaab"}, []string{"aab", "abb"})
}

func TestP103Backslashes(t *testing.T) {
	wantMatch(t, `a\*`, []string{"a*"}, []string{"ab", "a", `a\*`, `a\`})
	wantMatch(t, `\?`, []string{"?"}, []string{"a", `\?`, ""})
	wantMatch(t, `\[a]`, []string{"[a]"}, []string{"a"})
	wantMatch(t, `\\`, []string{`\`}, []string{`\\`, ""})
	wantMatch(t, `\`, []string{`\`}, []string{"", `\\`})
	wantMatch(t, `a\`, []string{`a\`}, []string{"a", `a\\`})
	wantMatch(t, `\\\`, []string{`\\`}, []string{`\`, `\\\`})
	wantMatch(t, `\a`, []string{"a"}, []string{`\a`})
	wantMatch(t, `*\`, []string{`\`, `a\`}, []string{"", "a"})
	wantMatch(t, `\**`, []string{"*", "*a"}, []string{"", "a"})
}

func TestP103Sets(t *testing.T) {
	wantMatch(t, "[a-c]?", []string{"b!", "a?", "cc"}, []string{"d!", "b", "-!", ""})
	wantMatch(t, "[abc]", []string{"a", "b", "c"}, []string{"", "d", "ab", "[", "]", "[abc]"})
	wantMatch(t, "[!a]*", []string{"b", "ba", "!"}, []string{"a", "", "ab"})
	wantMatch(t, "[!a-c]", []string{"d", "-", "!", "\xff"}, []string{"a", "b", "c", ""})
	wantMatch(t, "[a!]", []string{"a", "!"}, []string{"b"})
	wantMatch(t, "[!!]", []string{"a"}, []string{"!"})
	wantMatch(t, "[c-a]", nil, []string{"a", "b", "c", "-", ""})
	wantMatch(t, "[!c-a]", []string{"a", "b", "c", "-"}, []string{"", "aa"})
	wantMatch(t, "[a-a]", []string{"a"}, []string{"b", "-"})
	wantMatch(t, "[a-]", []string{"a", "-"}, []string{"b", "]"})
	wantMatch(t, "[-a]", []string{"a", "-"}, []string{"b"})
	wantMatch(t, "[-]", []string{"-"}, []string{"a"})
	wantMatch(t, "[--]", []string{"-"}, []string{"a"})
	wantMatch(t, "[---]", []string{"-"}, []string{"a", ","})
	wantMatch(t, "[--0]", []string{"-", ".", "/", "0"}, []string{",", "1"})
	wantMatch(t, "[a-c-e]", []string{"a", "b", "c", "-", "e"}, []string{"d"})
	wantMatch(t, "[a-c-]", []string{"a", "b", "c", "-"}, []string{"d"})
	wantMatch(t, "[a-cx-z]", []string{"a", "b", "c", "x", "y", "z"}, []string{"d", "-"})
	wantMatch(t, "[*]", []string{"*"}, []string{"a", ""})
	wantMatch(t, "[?]", []string{"?"}, []string{"a"})
	wantMatch(t, "[[]", []string{"["}, []string{"a", "]", "[["})
	wantMatch(t, `[\]`, []string{`\`}, []string{"]", `[\]`})
	wantMatch(t, `[\]]`, []string{`\]`}, []string{`\`, "]"})
	wantMatch(t, `[a\]*`, []string{"a", `\x`}, []string{"]", "b"})
	wantMatch(t, "[\x00-\xff]", []string{"\x00", "a", "\x80", "\xff"}, []string{"", "é"})
	wantMatch(t, "[!\x00-\xff]", nil, []string{"\x00", "a", "\x80", "\xff", ""})
	wantMatch(t, "[\x7f-\x81]", []string{"\x7f", "\x80", "\x81"}, []string{"~", "\x82"})
}

func TestP103WhereASetEnds(t *testing.T) {
	wantMatch(t, "[]x]", []string{"]", "x"}, []string{"", "[]x]", "[", "x]"})
	wantMatch(t, "[]]", []string{"]"}, []string{"", "[]]", "a"})
	wantMatch(t, "[!]]", []string{"a", "!"}, []string{"]", "", "[!]]"})
	wantMatch(t, "[!]x]", []string{"a", "!"}, []string{"]", "x"})
	wantMatch(t, "[]-a]", []string{"]", "^", "_", "`", "a"}, []string{"-", "b", "\\"})
	wantMatch(t, "[a]]", []string{"a]"}, []string{"a", "]"})
	wantMatch(t, "[a-]]", []string{"a]", "-]"}, []string{"b", "]"})
	wantMatch(t, "[a][b]", []string{"ab"}, []string{"a", "b", "ba"})
	// Without an end the [ stands for itself, and what is behind it is read on.
	wantMatch(t, "[", []string{"["}, []string{"", "[["})
	wantMatch(t, "[]", []string{"[]"}, []string{"", "[", "]"})
	wantMatch(t, "[!]", []string{"[!]"}, []string{"!", "a", "]", "["})
	wantMatch(t, "[!", []string{"[!"}, []string{"[", "a"})
	wantMatch(t, "[a", []string{"[a"}, []string{"a", "["})
	wantMatch(t, "[*", []string{"[", "[a"}, []string{"", "a"})
	wantMatch(t, "[a-c", []string{"[a-c"}, []string{"b"})
	wantMatch(t, "[?", []string{"[a", "[?"}, []string{"[", "a"})
	wantMatch(t, `[\a`, []string{"[a"}, []string{`[\a`})
	wantMatch(t, "a]b[", []string{"a]b["}, []string{"ab"})
	wantMatch(t, "[a][", []string{"a["}, []string{"a", "["})
	wantMatch(t, "[][", []string{"[]["}, []string{"]", "["})
	wantMatch(t, "[[[]", []string{"["}, []string{"[[", "]"})
}

// shorts answers all texts of at most n of these pieces.
func shorts(pieces []string, n int) []string {
	all, begin := []string{""}, 0
	for range n {
		end := len(all)
		for _, s := range all[begin:end] {
			for _, p := range pieces {
				all = append(all, s+p)
			}
		}
		begin = end
	}
	return all
}

func TestP103AllShortPatterns(t *testing.T) {
	texts := shorts([]string{"a", "b", "]", "-"}, 2)
	texts = append(texts, "[", "!", `\`, "*", "[]", "[!]", "aab", "aba", "[a-", `a\`, "ab]", "^", "_")
	var wider []string
	for _, s := range texts {
		wider = append(wider, wide(s))
	}
	for _, pattern := range shorts(strings.Split("*?[]!-\\ab", ""), 5) {
		model := patternOf(pattern)
		for i, s := range texts {
			if got := Match(pattern, s); got != model.MatchString(wider[i]) {
				t.Fatalf("Match(%q, %q): %v", pattern, s, got)
			}
		}
	}
}

func TestP103PatternsByChance(t *testing.T) {
	random := rand.New(rand.NewSource(103))
	pieces := []string{"*", "*", "?", "a", "b", "c", "[ab]", "[!a]", "[a-c]", "[!b-c]", "[]a]", "[", "]", "\\a", "\\*", "\\", "-", "\xff", "[\x80-\xff]"}
	for range 8000 {
		pattern := ""
		for range random.Intn(9) {
			pattern += pieces[random.Intn(len(pieces))]
		}
		model := patternOf(pattern)
		for range 10 {
			s := make([]byte, random.Intn(10))
			for i := range s {
				s[i] = "aaabbbcc]-[*\\\xff"[random.Intn(14)]
			}
			if got := Match(pattern, string(s)); got != model.MatchString(wide(string(s))) {
				t.Fatalf("Match(%q, %q): %v", pattern, s, got)
			}
		}
	}
}

// Texts that are made of a pattern are of it.
func TestP103TextsMadeOfPatterns(t *testing.T) {
	random := rand.New(rand.NewSource(104))
	for range 20000 {
		pattern, s := "", ""
		for range random.Intn(12) {
			b := byte(random.Intn(256))
			one := string([]byte{b})
			switch random.Intn(6) {
			case 0:
				pattern += "*"
				for range random.Intn(5) {
					s += string([]byte{byte(random.Intn(256))})
				}
			case 1:
				pattern, s = pattern+"?", s+one
			case 2:
				low, high := byte(random.Intn(int(b)+1)), b+byte(random.Intn(256-int(b)))
				if low == '!' || low == ']' || high == ']' {
					low, high = b, b
				}
				if b == '!' || b == ']' {
					pattern, s = pattern+`\`+one, s+one
					continue
				}
				pattern, s = pattern+"["+string([]byte{low, '-', high})+"]", s+one
			default:
				pattern, s = pattern+`\`+one, s+one
			}
		}
		if !Match(pattern, s) {
			t.Fatalf("%q is not of %q", s, pattern)
		}
	}
}

// wantSoon runs what may take some steps for each pair of 10000 and 10000 bytes,
// and no more: what takes steps for each three of them would take hours.
func wantSoon(t *testing.T, what string, run func() bool, want bool) {
	t.Helper()
	got := make(chan bool)
	go func() { got <- run() }()
	select {
	case is := <-got:
		if is != want {
			t.Errorf("%s: %v", what, is)
		}
	case <-time.After(time.Minute):
		t.Fatalf("%s: no answer within a minute", what)
	}
}

func TestP103WorkIsBounded(t *testing.T) {
	const n = 10000
	as := strings.Repeat("a", n)
	for _, c := range []struct {
		pattern, s string
		want       bool
	}{
		{strings.Repeat("*a", n/2) + "b", as, false},
		{strings.Repeat("a*", n/2), as + "b", true},
		{strings.Repeat("a*", n/2) + "c", as + "b", false},
		{strings.Repeat("*", n), as, true},
		{strings.Repeat("*", n) + "b", as, false},
		{"*" + as[:n/2] + "b", as, false},
		{"*" + as[:n/2] + "b*", as, false},
		{"*" + strings.Repeat("[", n/2), strings.Repeat("[", n), true},
		{"*" + strings.Repeat("[", n/2) + "b", strings.Repeat("[", n), false},
		{"*" + strings.Repeat("[!", n/4) + "b", strings.Repeat("[!", n/2), false},
		{"*]" + strings.Repeat("[", n/2) + "b", "]" + strings.Repeat("[", n), false},
		{"*[" + strings.Repeat("b", n/2) + "]*", as, false},
		{"*[" + strings.Repeat("b", n/2) + "]*", as + "b", true},
		{strings.Repeat("*[ab]", n/5) + "c", as, false},
		{"*" + strings.Repeat("?", n/2), as, true},
		{strings.Repeat("*?", n/2) + "b", as, false},
		{strings.Repeat("?*", n/2) + "b", as, false},
		{"*" + strings.Repeat(`\a`, n/4) + "b", as, false},
		{as, as, true},
		{as[1:], as, false},
		{as, "", false},
		{"", as, false},
		{strings.Repeat("*", n), "", true},
	} {
		what := fmt.Sprintf("%q ... on %d bytes", c.pattern[:min(len(c.pattern), 10)], len(c.s))
		wantSoon(t, what, func() bool { return Match(c.pattern, c.s) }, c.want)
	}
}

func TestP101PatternsOfAPlaceAreThoseOfMatch(t *testing.T) {
	random := rand.New(rand.NewSource(105))
	alphabet := "ab*?[]!-\\x0"
	for range 5000 {
		var text [2]string
		for i := range text {
			for range random.Intn(6) {
				text[i] += string(alphabet[random.Intn(len(alphabet))])
			}
		}
		want := answer{oneIf(Match(text[0], text[1])), api.OK}
		if got := expanded("#{m:"+text[0]+","+text[1]+"}", nil); got != want {
			t.Fatalf("m of %q and %q: %v", text[0], text[1], got)
		}
		vars := []api.Var{{Name: "p", Value: text[0]}, {Name: "s", Value: text[1]}}
		if got := expanded("#{m:#{p},#{s}}", vars); got != want {
			t.Fatalf("m of the values %q and %q: %v", text[0], text[1], got)
		}
	}
}
