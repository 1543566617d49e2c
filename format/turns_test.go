package format

import (
	"fmt"
	"strings"
	"testing"

	"mullion/api"
)

// turnedBy says how these turns leave a text.
func turnedBy(turns, text string) answer {
	return expanded("#{"+turns+":v}", []api.Var{{Name: "v", Value: text}})
}

func wantTurned(t *testing.T, turns, text, want string) {
	t.Helper()
	if got := turnedBy(turns, text); got != (answer{want, api.OK}) {
		t.Errorf("%q turned by %s: %v, and not %q", shorter(text), turns, got, shorter(want))
	}
	hold(t, "#{"+turns+":v}", []api.Var{{Name: "v", Value: text}})
}

func TestP101FirstAndLastBytes(t *testing.T) {
	wantTurned(t, "=2", "abc", "ab")
	wantTurned(t, "=-2", "abc", "bc")
	wantTurned(t, "=3", "abc", "abc")
	wantTurned(t, "=4", "abc", "abc")
	wantTurned(t, "=-3", "abc", "abc")
	wantTurned(t, "=-4", "abc", "abc")
	wantTurned(t, "=0", "abc", "")
	wantTurned(t, "=-0", "abc", "")
	wantTurned(t, "=0002", "abc", "ab")
	wantTurned(t, "=9999", "abc", "abc")
	wantTurned(t, "=-9999", "abc", "abc")
	wantTurned(t, "=1", "é", "\xc3")
	wantTurned(t, "=5", "", "")
	long := strings.Repeat("abc", 3000)
	wantTurned(t, "=1024", long, long[:1024])
	wantTurned(t, "=-1024", long, long[len(long)-1024:])
}

func TestP101Blanks(t *testing.T) {
	wantTurned(t, "p5", "abc", "abc  ")
	wantTurned(t, "p-5", "abc", "  abc")
	wantTurned(t, "p3", "abc", "abc")
	wantTurned(t, "p2", "abc", "abc")
	wantTurned(t, "p-3", "abc", "abc")
	wantTurned(t, "p-2", "abc", "abc")
	wantTurned(t, "p0", "", "")
	wantTurned(t, "p-0", "a", "a")
	wantTurned(t, "p1024", "a", "a"+strings.Repeat(" ", 1023))
	wantTurned(t, "p-1024", "a", strings.Repeat(" ", 1023)+"a")
	for _, turn := range []string{"p1025", "p-1025", "p9999", "p-9999"} {
		wantFault(t, "#{"+turn+":empty}", api.ErrLong)
	}
	wantSays(t, "#{p-3:#I}", "  3")
	wantSays(t, "#{p3:#I}|", "3  |")
}

func TestP101PathsParts(t *testing.T) {
	for _, c := range []struct{ text, base, folder string }{
		{"a/b", "b", "a"}, {"/a/b/c", "c", "/a/b"}, {"a", "a", "."}, {"", "", "."}, {"/", "", "/"}, {"/a", "a", "/"}, {"a/", "", "a"}, {"//", "", "/"}, {"a//b", "b", "a/"}, {"/usr/local/bin", "bin", "/usr/local"}, {"a\nb/c\n", "c\n", "a\nb"},
	} {
		wantTurned(t, "b", c.text, c.base)
		wantTurned(t, "d", c.text, c.folder)
	}
}

func TestP101CountsAndLetters(t *testing.T) {
	wantTurned(t, "n", "", "0")
	wantTurned(t, "n", "abc", "3")
	wantTurned(t, "n", "é", "2")
	wantTurned(t, "n", strings.Repeat("a", 100000), "100000")
	var all strings.Builder
	for b := range 256 {
		all.WriteByte(byte(b))
	}
	small, great := "abcdefghijklmnopqrstuvwxyz", "ABCDEFGHIJKLMNOPQRSTUVWXYZ"
	wantTurned(t, "u", all.String(), strings.Replace(all.String(), small, great, 1))
	wantTurned(t, "w", all.String(), strings.Replace(all.String(), great, small, 1))
	wantTurned(t, "u", "aZ@[`{é", "AZ@[`{é")
	wantTurned(t, "w", "Az@[`{É", "az@[`{É")
	wantTurned(t, "u", strings.Repeat("a", 1024), strings.Repeat("A", 1024))
	wantTurned(t, "w", strings.Repeat("A", 1024), strings.Repeat("a", 1024))
	for _, turn := range []string{"u", "w"} {
		if got := turnedBy(turn, strings.Repeat("a", 1025)); got != (answer{"", api.ErrLong}) {
			t.Errorf("%s of 1025 bytes: %v", turn, got)
		}
	}
}

func TestP101Exchanges(t *testing.T) {
	wantSays(t, "#{s/a/xy/:banana}", "")
	wantSays(t, "#{s/a/xy/:#{l:banana}}", "bxynxynxy")
	wantTurned(t, "s/a/b/", "aXa", "bXb")
	wantTurned(t, "s/a//", "banana", "bnn")
	wantTurned(t, "s/aa/b/", "aaaaa", "bba")
	wantTurned(t, "s/aba/x/", "ababa", "xba")
	wantTurned(t, "s/a/aa/", "aba", "aabaa")
	wantTurned(t, "s/ab/ba/", "aabb", "abab") // what is put in is not sought in
	wantTurned(t, "s/x/y/", "", "")
	wantTurned(t, "s/./-/", "a.b", "a-b")
	wantTurned(t, "s/*/-/", "a*b", "a-b")
	wantTurned(t, "s/a/$0&\\1/", "a", "$0&\\1")
	wantTurned(t, "s/,/#,/", "a,b", "a#,b") // their bytes stand for themselves
	wantTurned(t, "s/#}/x/", "a}#}", "a}x")
	wantTurned(t, "s/##/x/", "#a##", "#ax")
	wantTurned(t, "s/#{a}/x/", "#{a}b", "xb")
	wantTurned(t, "s/ / _ /", "a b", "a _ b")
	wantTurned(t, "s/a/\xff/", "a", "\xff")
	wantTurned(t, "s/abc//", strings.Repeat("abc", 5000), "")
	wantTurned(t, "s/a/b/", strings.Repeat("a", 1024), strings.Repeat("b", 1024))
	wantTurned(t, "s/a/bb/", strings.Repeat("a", 512), strings.Repeat("b", 1024))
	wantTurned(t, "s/a//", strings.Repeat("a", 2000)+strings.Repeat("b", 1024), strings.Repeat("b", 1024))
	// A place that a turn's text holds open takes a brace of the rest.
	wantSays(t, "#{s/#{/b/:foo}}", "foo}")
	wantSays(t, "#{s/#{/b/:x y},}", "x y},")
	for _, text := range []string{strings.Repeat("a", 513), strings.Repeat("a", 1<<20), strings.Repeat("c", 1025), strings.Repeat("c", 1024) + "a", "a" + strings.Repeat("c", 1023)} {
		if got := turnedBy("s/a/bb/", text); got != (answer{"", api.ErrLong}) {
			t.Errorf("%d bytes: %v", len(text), got)
		}
	}
}

// All exchanges would make more bytes than there is memory for.
func TestP101AnExchangeStopsWhenItIsTooLong(t *testing.T) {
	f := "#{s/a/" + strings.Repeat("b", 1<<20) + "/:v}"
	if got := expanded(f, []api.Var{{Name: "v", Value: strings.Repeat("a", 1<<20)}}); got != (answer{"", api.ErrLong}) {
		t.Errorf("%v", got)
	}
}

func TestP101SeveralTurns(t *testing.T) {
	wantSays(t, "#{=2;p4:window_name}|", "a/  |")
	wantSays(t, "#{p4;=2:window_name}|", "a/|")
	wantSays(t, "#{b;u:path}", "BIN")
	wantSays(t, "#{d;d;b:path}", "usr")
	wantSays(t, "#{n;n:long}", "4")
	wantSays(t, "#{=5;=-2;p-6;p8:long}|", "    34  |")
	wantSays(t, "#{u;w;u:a}", "ZZ")
	wantSays(t, "#{s/a/b/;s/b/c/:#{l:aba}}", "ccc")
	wantSays(t, "#{=-6;s/a/bb/;s/b/A/;w;n:long}", "7")
	turns := []string{"=2", "=-2", "=0", "p3", "p-3", "p6", "b", "d", "n", "u", "w", "s/a/bc/", "s/b//", "s/ab/B/"}
	texts := []string{"", "a", "ab", "a/b", "/", "/a", "abab", "AbC/d ", "aabb//"}
	for _, one := range turns {
		for _, two := range turns {
			for _, text := range texts {
				vars := []api.Var{{Name: "v", Value: text}}
				hold(t, "#{"+one+";"+two+":v}", vars)
				hold(t, "#{"+one+";"+two+";"+one+":v}", vars)
			}
		}
	}
	// Each turn's text is bounded, the last one's too.
	wantFault(t, "#{p2000;=1:a}", api.ErrLong)
	wantFault(t, "#{u;=1:long}", api.ErrLong)
	wantFault(t, "#{=1;p1025:a}", api.ErrLong)
	wantSays(t, "#{=1;u:long}", "0")
	wantSays(t, "#{b;n:long}", "0")
	wantFault(t, "#{d:long}", api.ErrLong)
	wantSays(t, fmt.Sprintf("#{%s:a}", strings.Repeat("u;", 5000)+"w"), "zz")
}

func TestP101WhatIsTurned(t *testing.T) {
	wantSays(t, "#{u:window_name}", "A/B")
	wantSays(t, "#{u:#{window_name}}", "A/B")
	wantSays(t, "#{u:window-name}", "WINDOW-NAME")
	wantSays(t, "#{u:x:y;z}", "X:Y;Z")
	wantSays(t, "#{u:}", "")
	wantSays(t, "#{n:}", "0")
	wantSays(t, "#{n:nothing}", "0")
	wantSays(t, "#{u:#{l:#{x}}}", "#{X}")
	wantSays(t, "#{n:"+strings.Repeat("-", 1024)+"}", "1024")
	wantFault(t, "#{n:"+strings.Repeat("-", 1025)+"}", api.ErrLong) // a part that is expanded is bounded
	wantFault(t, "#{=1:#{long}}", api.ErrLong)
	wantFault(t, "#{u:#{}}", api.ErrFormat)
}

func TestP101TurnsThatAreNone(t *testing.T) {
	for _, head := range []string{"=", "=-", "=12345", "=-12345", "=00001", "=a", "=1a", "=a1", "= 1", "=1 ", "=+1", "=--1", "=1-", "=１", "p", "p-", "p12345", "p00001", "p1.", "px", "bb", "b1", "d/", "n0", "u=", "ww", "U", "B",
		"s", "s/", "s/a", "s/a/", "s/a/b", "s//x/", "s///", "s/a/b/c", "s/a/b//", "s/a/b/g", "s|a|b|", "s a/b/", "sx/a/b/", "s/a/b/ ", ";", "u;", ";u", "u;;w", "u;z", "z;u", "u;=", "=3;p", "u; w", "s/a;b/c/", "u,w", "=3,u"} {
		wantFault(t, "#{"+head+":a}", api.ErrFormat)
		wantFault(t, "#{"+head+":#{long}}", api.ErrFormat)
	}
}
