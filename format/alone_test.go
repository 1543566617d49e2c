package format

import (
	"runtime"
	"slices"
	"strings"
	"sync"
	"testing"
	"unsafe"

	"mullion/api"
)

func TestRule1EveryCallEnds(t *testing.T) {
	m := newMaker(11)
	for range 5000 {
		f := m.bytes(100)
		hold(t, f, variables())
		Match(f, m.bytes(100))
		Truth(f)
	}
	for _, part := range []string{"#", "#{", "{", "}", ",", "#,", "##", "#}", "#{?", "#{?1,", "#{l:", "#{u:", "#{==:", "#{a}", "#{?1,}", "#{u;", "?", ":", "=1;", "#{#{}", "#{s/", "#{s/#{/x/:", "#{e|+|:1,", "\xff"} {
		for _, n := range []int{1024, 1 << 16, 1 << 20} {
			text := strings.Repeat(part, n/len(part)+1)
			for _, f := range []string{text, "#{" + text, "#{" + text + "}", text + strings.Repeat("}", n), "#{?1,x," + text + strings.Repeat("}", n)} {
				if said, err := Expand(f, variables()); err != api.OK && said != "" || len(said) > api.MaxText {
					t.Errorf("%q ... (%d): %q, error %d", f[:20], len(f), said, err)
				}
			}
		}
	}
}

func TestRule1ManyVariables(t *testing.T) {
	var vars []api.Var
	for i := range 200000 {
		vars = append(vars, api.Var{Name: "v" + strings.Repeat("x", i%20) + string(rune('a'+i%26)), Value: ""})
	}
	vars = append(vars, api.Var{Name: "end", Value: "e"})
	if got := expanded(strings.Repeat("#{va}", 200000)+"#{end}", vars); got != (answer{"e", api.OK}) {
		t.Errorf("%v", got)
	}
}

// A text with the memory that it lies in.
type stretch struct {
	from, to uintptr
	what     string
}

func ofText(what, s string) stretch {
	from := uintptr(unsafe.Pointer(unsafe.StringData(s)))
	return stretch{from, from + uintptr(len(s)), what}
}

func wantApart(t *testing.T, all []stretch) {
	t.Helper()
	all = slices.DeleteFunc(all, func(s stretch) bool { return s.from == s.to })
	slices.SortFunc(all, func(a, b stretch) int { return int(int64(a.from) - int64(b.from)) })
	for i := 1; i < len(all); i++ {
		if all[i].from < all[i-1].to {
			t.Fatalf("%s shares memory with %s", all[i].what, all[i-1].what)
		}
	}
}

func TestRule3AnswersAreNewMemory(t *testing.T) {
	m := newMaker(12)
	check := func(f string) {
		f = strings.Clone(f)
		vars := variables()
		for i := range vars {
			vars[i] = api.Var{Name: strings.Clone(vars[i].Name), Value: strings.Clone(vars[i].Value)}
		}
		heldF, held := strings.Clone(f), slices.Clone(vars)
		one, two := expanded(f, vars), expanded(f, vars)
		all := []stretch{ofText("the text", f), ofText("an answer", one.said), ofText("another", two.said)}
		for _, v := range vars {
			all = append(all, ofText("the name "+v.Name, v.Name), ofText("the value of "+v.Name, v.Value))
		}
		wantApart(t, all)
		if f != heldF || !slices.Equal(vars, held) || !slices.Equal(vars, variables()) {
			t.Fatalf("what was handed in with %q has changed", heldF)
		}
		// What is not held any longer could be made again at the same place.
		runtime.KeepAlive(one)
		runtime.KeepAlive(two)
		runtime.KeepAlive(f)
		runtime.KeepAlive(vars)
	}
	for _, f := range []string{"a", "ab", "#", "##", "#S", "#{path}", "#{?1,#{path}}", "#{?1,abc}", "#{b:path}", "#{=4:path}", "#{=-4:path}", "#{d:path}", "#{p1:path}", "#{u:path}", "#{s/x/y/:path}", "#{l:abc}", "#{?#{path},#S,x}", "#{==:a,a}", "#{n:path}", "#{e|+|:1,2}"} {
		check(f)
		check(f + f)
	}
	for range 5000 {
		check(m.text(3))
	}
}

func TestRule4AnswersHangOnArgumentsAlone(t *testing.T) {
	m := newMaker(13)
	type asked struct {
		f, pattern, s string
		vars          []api.Var
	}
	var all []asked
	var want []answer
	var is []bool
	for range 1000 {
		a := asked{m.text(3), m.bytes(8), m.bytes(8), variables()[m.Intn(5):]}
		all = append(all, a)
		want = append(want, expect(a.f, a.vars))
		is = append(is, isOfPattern(a.pattern, a.s))
	}
	var group sync.WaitGroup
	for g := range 8 {
		group.Go(func() {
			for i := range all {
				at := (i*7 + g*125) % len(all)
				a := all[at]
				if got := expanded(a.f, a.vars); got != want[at] {
					t.Errorf("%q beside others: %v", a.f, got)
					return
				}
				if Match(a.pattern, a.s) != is[at] {
					t.Errorf("%q and %q beside others: not %v", a.pattern, a.s, is[at])
					return
				}
			}
		})
	}
	group.Wait()
}
