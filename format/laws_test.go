package format

import (
	"strings"
	"testing"

	"mullion/api"
)

// escaped puts a # ahead of each of these bytes of a text.
func escaped(text, these string) string {
	out := ""
	for i := range len(text) {
		if strings.IndexByte(these, text[i]) >= 0 {
			out += "#"
		}
		out += text[i : i+1]
	}
	return out
}

func wantItself(t *testing.T, text string) {
	t.Helper()
	for _, vars := range [][]api.Var{nil, variables()} {
		if got := expanded(escaped(text, "#"), vars); got != (answer{text, api.OK}) {
			t.Fatalf("%q with a # ahead of each #: %v", shorter(text), got)
		}
		for _, choice := range []string{"#{?1,", "#{?zeros,", "#{?#{!:},"} {
			if choice == "#{?zeros," && vars == nil {
				continue
			}
			for _, behind := range []string{"}", ",}", ",#{}}"} {
				if got := expanded(choice+escaped(text, "#,}")+behind, vars); got != (answer{text, api.OK}) {
					t.Fatalf("%q as a part of a choice: %v", shorter(text), got)
				}
			}
		}
	}
}

func TestP104ATextSaysItself(t *testing.T) {
	for _, text := range []string{"", "#", "##", "#{", "#{a}", "a#", "#I", ",", "}", "{", "#,", "#}", "}#", ",#{", "#{?1,a,b}", "#{l:x}", "\x00\xff"} {
		wantItself(t, text)
	}
	for _, text := range shorts([]string{"#", "{", "}", ",", "a", "S"}, 4) {
		wantItself(t, text)
	}
	m := newMaker(4)
	for range 2000 {
		wantItself(t, m.bytes(40))
		wantItself(t, m.text(3))
	}
}

func TestP104UpToMaxText(t *testing.T) {
	m := newMaker(5)
	for _, piece := range []string{"#", "#{", "x", ",", "}", "#}", "#,{", m.bytes(50) + "#"} {
		text := strings.Repeat(piece, 1025)
		wantItself(t, text[:1023])
		wantItself(t, text[:1024])
		for _, f := range []string{escaped(text[:1025], "#"), "#{?1," + escaped(text[:1025], "#,}") + "}"} {
			if got := expanded(f, variables()); got != (answer{"", api.ErrLong}) {
				t.Errorf("1025 bytes of %q: %v", piece, got)
			}
		}
	}
}

// mayStandAhead tells whether what is put behind a text leaves it as it is.
func mayStandAhead(f string) bool {
	return !strings.HasSuffix(f, "#") || strings.HasSuffix(f, "##") && strings.Count(f, "#") == 2
}

func wantSideBySide(t *testing.T, f, g string, vars []api.Var) bool {
	t.Helper()
	s, e, both := expanded(f, vars), expanded(g, vars), expanded(f+g, vars)
	if s.err != api.OK || e.err != api.OK || !mayStandAhead(f) {
		return false
	}
	want := answer{s.said + e.said, api.OK}
	if len(want.said) > api.MaxText {
		want = answer{"", api.ErrLong}
	}
	if both != want {
		t.Fatalf("%q says %v, %q says %v, but side by side they say %v", shorter(f), s, shorter(g), e, both)
	}
	return true
}

func TestP105SideBySide(t *testing.T) {
	vars := variables()
	texts := shorts([]string{"#", "{", "}", ",", "a", "I"}, 3)
	texts = append(texts, "#{a}", "#{?1,x}", "#{l:#}}", "##", "a##", "b##", "###", "#{", "#{empty}", "#{?no,#{},y}")
	for _, f := range texts {
		for _, g := range texts {
			wantSideBySide(t, f, g, vars)
		}
	}
	m := newMaker(6)
	held := 0
	for range 20000 {
		if wantSideBySide(t, m.text(3), m.text(3), vars) {
			held++
		}
	}
	if held < 2000 {
		t.Errorf("%d pairs alone", held)
	}
}

func TestP105TogetherAtMostMaxText(t *testing.T) {
	vars := []api.Var{{Name: "v", Value: strings.Repeat("v", 1000)}}
	for _, n := range []int{0, 23, 24, 25, 1000, 1024} {
		x := strings.Repeat("x", n)
		for _, pair := range [][2]string{{"#{v}", x}, {x, "#{v}"}, {"#{?1,#{v}}", x}, {x, x}, {x + "#{?1,}", x}} {
			if !wantSideBySide(t, pair[0], pair[1], vars) {
				t.Errorf("%q and %q are not held side by side", shorter(pair[0]), shorter(pair[1]))
			}
		}
	}
}

func isShortForm(name string) bool {
	for _, n := range shortNames {
		if n == name {
			return true
		}
	}
	return false
}

func TestP106OnlyWhatIsAsked(t *testing.T) {
	m := newMaker(7)
	for range 30000 {
		f := m.text(3)
		vars := variables()
		want := expanded(f, vars)
		var other []api.Var
		for _, v := range vars {
			asked := isShortForm(v.Name) || strings.Contains(f, v.Name)
			if asked {
				other = append(other, v)
			} else if m.chance(50) {
				other = append(other, api.Var{Name: v.Name, Value: m.bytes(5)})
			}
			if m.chance(10) {
				other = append(other, api.Var{Name: "q_" + m.of("x", "y", ""), Value: m.bytes(3)}, api.Var{Name: m.of("", "Q", "q r", "#"), Value: "z"})
			}
		}
		if got := expanded(f, other); got != want {
			t.Fatalf("%q says %v, and %v with other variables that it does not ask for", f, want, got)
		}
	}
}

// What a value spells is not asked for.
func TestP106NamesAreNotPutTogether(t *testing.T) {
	vars := []api.Var{{Name: "x", Value: "secret"}, {Name: "y", Value: "#{secret}"}, {Name: "secret", Value: "told"}, {Name: "sec", Value: "se"}}
	for _, f := range []string{"#{x}", "#{y}", "#{=99:x}", "#{?x,#{x},#{y}}", "#{l:#{y}}", "#{=99:#{x}}", "#{u:#{l:#{x}}}", "#{w:#{y}}", "#{==:#{x},#{y}}", "#{s/s/s/:x}", "#{p20:y}"} {
		got := expanded(f, vars)
		vars[2].Value = "other"
		again := expanded(f, vars)
		vars[2].Value = "told"
		if got != again || strings.Contains(got.said, "told") || got.err != api.OK {
			t.Errorf("%q says %v, and %v", f, got, again)
		}
	}
}
