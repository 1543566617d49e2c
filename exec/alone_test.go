package exec

import (
	"fmt"
	"math"
	"slices"
	"strings"
	"sync"
	"testing"
	"unsafe"

	"mullion/api"
	"mullion/store"
	"mullion/verb"
)

// wild is a command whose number, flags and words are any.
func (d *dealer) wild() api.Command {
	text := func() string {
		return pick(d, "", "a", "-", "--", "%1", "$1:", "\x00", "\n", "\xff", "é", strings.Repeat("#{n:", 400), strings.Repeat("x", 70000), strings.Repeat("%", 9), d.target(), d.number(), d.format())
	}
	c := api.Command{Verb: pick(d, 1+d.Intn(32), d.Intn(40)-3, math.MinInt, math.MaxInt)}
	for range d.Intn(5) {
		c.Flags = append(c.Flags, api.Flag{Letter: pick(d, "a", "d", "t", "s", "F", "A", "B", "f", "x", "Z", "", "tt"), Value: text()})
	}
	for range d.Intn(4) {
		c.Words = append(c.Words, text())
	}
	return c
}

// tame has the letters of the command alone, with any texts.
func (d *dealer) tame() api.Command {
	c := d.deal()
	for i := range c.Flags {
		if c.Flags[i].Value != "" {
			c.Flags[i].Value = pick(d, "\x00", "\xff\n", ":", ".", "%", "@", "$", "=", "+", "-", "!", "{", strings.Repeat("a", 9000), strings.Repeat(":", 99), "%"+strings.Repeat("9", 40))
		}
	}
	for i := range c.Words {
		c.Words[i] = pick(d, "\x00", "", strings.Repeat("#", 3000), strings.Repeat("#{", 300), "-9223372036854775808", strings.Repeat("9", 99))
	}
	return c
}

func TestRule1EveryCallEnds(t *testing.T) {
	numbers := []int{math.MinInt, -1, 0, 1, 2, 3, 99, api.MaxNumber, api.MaxNumber + 1, math.MaxInt}
	inRuns(t, 20, func(t *testing.T, run int) {
		d := newDesk(t, runConfigs()[run%5])
		deals := newDealer(int64(run), d.st, 10)
		for step := range 250 {
			deals.now = d.st.State()
			if step%2 == 0 {
				hold(t, d.st, pick(deals, numbers...), deals.wild())
			} else {
				hold(t, d.st, deals.here(), deals.tame())
			}
			Do(d.st, deals.here(), deals.deal())
			Vars(d.st, place(pick(deals, numbers...), pick(deals, numbers...), pick(deals, numbers...), pick(deals, numbers...)))
			Message(api.Errno(pick(deals, numbers...)), strings.Repeat("x", deals.Intn(3)))
			text := make([]byte, deals.Intn(40))
			for i := range text {
				text[i] = pick(deals, []byte(" abc;;'\"\\#{}%@$-:.newlskilp\x00\n\xff")...)
			}
			want, behind := expectLine(d.st, 1, api.Line{Text: string(text)})
			if got := Line(d.st, 1, api.Line{Text: string(text)}); told(got) != told(want) || whole(d.st) != whole(behind) {
				t.Fatalf("%q answers %s, and not %s", text, told(got), told(want))
			}
		}
	})
}

// The greatest state with the longest format: as many lines as there can be.
func TestRule1TheGreatest(t *testing.T) {
	d := newDesk(t, api.Config{W: 1000, H: 1000, Tail: api.MaxTail}).ok("new")
	for range 31 {
		d.ok("selectl tiled").ok("splitw -t :0.0")
	}
	for i := range 31 {
		d.ok("linkw -d -t " + decimal(100+i))
	}
	a := Do(d.st, 1, d.command("lsp -a -F '#{window_layout}'"))
	if a.Err != api.ErrLong && len(a.Body) != 1024 {
		t.Errorf("%d lines, error %d", len(a.Body), a.Err)
	}
	if a := Do(d.st, 1, d.command("lsp -s -F '#D#{p1000:x}'")); len(a.Body) != 1024 || len(a.Body[1023]) < 1002 {
		t.Errorf("%d lines, error %d", len(a.Body), a.Err)
	}
}

// A store that New did not make: nothing panics, nothing is done.
func TestRule1NoStore(t *testing.T) {
	made := world(t)
	for _, st := range []*store.Store{nil, new(store.Store)} {
		for v := -1; v <= 33; v++ {
			for _, c := range []api.Command{{Verb: v}, {Verb: v, Words: []string{"x"}}, {Verb: v, Flags: flags("x", "5", "y", "5")}} {
				a := Do(st, 3, c)
				want := api.Answer{Here: 3, Err: api.ErrArg}
				if _, err := verb.Words(c); err != api.OK {
					want.Err = api.ErrVerb
				}
				if told(a) != told(want) {
					t.Errorf("%v answers %s", c, told(a))
				}
			}
		}
		if a := Line(st, 3, api.Line{Text: "new -x 5 -y 5"}); told(a) != told(api.Answer{Body: []string{"bad argument"}, Here: 3, Err: api.ErrArg}) {
			t.Errorf("%s", told(a))
		}
		if a := Line(st, 3, api.Line{Text: "nothing"}); a.Err != api.ErrVerb {
			t.Errorf("%s", told(a))
		}
		if a := Line(st, 3, api.Line{}); told(a) != told(api.Answer{Here: 3}) {
			t.Errorf("%s", told(a))
		}
		if got := Vars(st, place(1, 0, 1, 1)); len(got) != 0 {
			t.Errorf("%v", got)
		}
	}
	made.ok("has")
}

// With an error a command answers nothing else but what that is about, and where the client is.
func TestRule2ZeroBesideAnError(t *testing.T) {
	d := world(t)
	for _, line := range []string{"refresh -A %1:pause -B :", "ls -F '#{?#{==:#S,play},#{},x}'", "lsp -a -F '#{?#{==:#S,play},#{},x}'", "new -P -s work", "splitw -P -l q", "resizep -R -y 0", "display '#{'"} {
		a := Do(d.st, 1, d.command(line))
		if a.Err == api.OK || a.Body != nil || a.Acts != nil || a.Here != 1 {
			t.Errorf("%s answers %s", line, told(a))
		}
	}
	if a := Do(d.st, 1, d.command("ls")); a.Acts != nil || a.About != "" {
		t.Errorf("%s", told(a))
	}
}

// scribble writes over a list, makes it longer, and writes over its spare room.
func scribble[T any](list []T, mark T) {
	list = append(list, mark)
	list = list[:cap(list)]
	for i := range list {
		list[i] = mark
	}
}

// roomy gives the list again, with spare room that holds something.
func roomy[T any](list []T, spare T) []T { return append(slices.Clip(list), spare)[:len(list)] }

// scribbleAll writes over all that an answer has, and holds each of its lists against the writing over of the other.
func scribbleAll(t *testing.T, a api.Answer) {
	t.Helper()
	acts := fmt.Sprintf("%+v", a.Acts)
	scribble(a.Body, "!")
	if fmt.Sprintf("%+v", a.Acts) != acts {
		t.Fatal("Acts share memory with Body")
	}
	scribble(a.Acts, api.Act{Kind: -1, Name: "!", Text: "!"})
}

// The lists of an answer are its caller's: the same command over a store like this one answers the same, the store is
// not changed, and what was answered ahead of it is not.
func TestRule3AnswersAreTheirCallers(t *testing.T) {
	inRuns(t, 20, func(t *testing.T, run int) {
		d := newDesk(t, runConfigs()[run%5])
		deals := newDealer(int64(4000+run), d.st, 10)
		for range 200 {
			deals.stir()
			here, other := deals.here(), d.st.Clone()
			line, commands := deals.line(4)
			ahead := Line(d.st.Clone(), here, api.Line{Text: line})
			single := oneByOne(other.Clone(), here, commands)
			was := told(ahead) + told(single)
			a := Line(d.st, here, api.Line{Text: line})
			kept := told(a)
			b := Do(other, here, commands[0])
			now := whole(d.st) + whole(other)
			scribbleAll(t, b)
			if told(a) != kept {
				t.Fatal("two answers share memory")
			}
			scribbleAll(t, a)
			if whole(d.st)+whole(other) != now {
				t.Fatalf("%s: an answer shares memory with the store", line)
			}
			if told(ahead)+told(single) != was {
				t.Fatalf("%s: two answers share memory", line)
			}
		}
	})
}

func TestRule3VarsAreTheirCallers(t *testing.T) {
	d := world(t)
	p := place(1, 1, 2, 3)
	was := whole(d.st)
	first, second := Vars(d.st, p), Vars(d.st, p)
	kept := slices.Clone(second)
	scribble(first, api.Var{Name: "!", Value: "!"})
	if !slices.Equal(second, kept) || !slices.Equal(Vars(d.st, p), kept) || whole(d.st) != was {
		t.Error("Vars shares memory")
	}
	d.ok("renamew other").ok("rename other").ok("resizep -Z").write(3, "x")
	if !slices.Equal(second, kept) {
		t.Error("what Vars answered has changed")
	}
}

// What is handed in stays as it is, spare room too.
func TestRule3ArgumentsStay(t *testing.T) {
	inRuns(t, 20, func(t *testing.T, run int) {
		d := newDesk(t, runConfigs()[run%5])
		deals := newDealer(int64(5000+run), d.st, 10)
		for range 200 {
			c := deals.deal()
			c.Flags, c.Words = roomy(c.Flags, api.Flag{Letter: "s", Value: "pare"}), roomy(c.Words, "spare")
			all := func() string {
				return fmt.Sprintf("%d %q %q", c.Verb, c.Flags[:len(c.Flags)+1], c.Words[:len(c.Words)+1])
			}
			was := all()
			a := Do(d.st, deals.here(), c)
			scribbleAll(t, a)
			if all() != was {
				t.Fatalf("a command has changed: %s, and not %s", all(), was)
			}
		}
	})
}

// over is a text that lies in bytes which can be written over behind the call.
func over(memory []byte) string { return unsafe.String(unsafe.SliceData(memory), len(memory)) }

// loose gives a command whose texts lie in bytes that are written over when spoil is called.
func loose(c api.Command) (api.Command, func()) {
	var all [][]byte
	text := func(s string) string {
		memory := []byte(s)
		all = append(all, memory)
		return over(memory)
	}
	flags, words := []api.Flag{}, []string{}
	for _, f := range c.Flags {
		flags = append(flags, api.Flag{Letter: text(f.Letter), Value: text(f.Value)})
	}
	for _, w := range c.Words {
		words = append(words, text(w))
	}
	return api.Command{Verb: c.Verb, Flags: flags, Words: words}, func() {
		for _, memory := range all {
			for i := range memory {
				memory[i] = '!'
			}
		}
	}
}

// Nothing that is handed in is kept, neither in the store nor in what is answered.
func TestRule3NothingHandedInIsKept(t *testing.T) {
	inRuns(t, 20, func(t *testing.T, run int) {
		d := newDesk(t, runConfigs()[run%5])
		deals := newDealer(int64(6000+run), d.st, 10)
		for range 300 {
			c, spoil := loose(deals.deal())
			a := Do(d.st, deals.here(), c)
			kept, now := strings.Clone(told(a)), strings.Clone(whole(d.st))
			said := spelt(c)
			spoil()
			if told(a) != kept || whole(d.st) != now {
				t.Fatalf("%s: what was handed in is kept", said)
			}
		}
		line, spoil := loose(api.Command{Words: []string{"new -s lined ; renamew wind ; display -p '#W' ; display text ; refresh -B w::f ; nothing"}})
		good := strings.TrimSuffix(line.Words[0], " ; nothing")
		a, b := Line(d.st, 0, api.Line{Text: good}), Line(d.st, 0, api.Line{Text: line.Words[0]})
		kept, now := strings.Clone(told(a)+told(b)), strings.Clone(whole(d.st))
		about := Message(api.ErrTarget, over([]byte(kept)))
		spoil()
		if told(a)+told(b) != kept || whole(d.st) != now || about != "not found: "+kept {
			t.Fatal("what was handed in is kept")
		}
	})
}

// The same lines, given to clones of one store by many goroutines at once, answer the same.
func TestRule4ManyAtOnce(t *testing.T) {
	d := world(t)
	deals := newDealer(7, d.st, 20)
	var clones []*store.Store
	for range 8 {
		clones = append(clones, d.st.Clone())
	}
	type asked struct {
		here   int
		line   string
		answer string
	}
	var all []asked
	for range 400 {
		line, _ := deals.line(3)
		here := deals.here()
		all = append(all, asked{here, line, told(Line(d.st, here, api.Line{Text: line}))})
	}
	want := whole(d.st)
	var group sync.WaitGroup
	for i, st := range clones {
		group.Go(func() {
			for n, x := range all {
				if got := told(Line(st, x.here, api.Line{Text: x.line})); got != x.answer {
					t.Errorf("%s answers %s, and not %s", x.line, got, x.answer)
					return
				}
				if n%(i+2) == 0 {
					st = st.Clone()
				}
			}
			if got := whole(st); got != want {
				t.Errorf("the same lines lead to\n%s\nand not to\n%s", got, want)
			}
		})
	}
	group.Wait()
}
