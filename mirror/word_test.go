package mirror

import (
	"strings"
	"testing"

	"mullion/wire"
)

// walk feeds every list of so many lines, one behind the other as long as they follow, to a mirror of its own, and hands over each.
func walk(t *testing.T, lines []string, depth int, ahead string, meet func(p *pair)) {
	t.Helper()
	for _, line := range lines {
		p := &pair{t: t, m: New(), b: book{ahead + line + "\n"}}
		p.m.Feed(p.b.all)
		p.look()
		meet(p)
		if _, broken := p.m.Broken(); !broken && depth > 1 {
			walk(t, lines, depth-1, p.b.all, meet)
		}
	}
}

// wantWord is M7: what has not broken a mirror is a beginning of a word.
func wantWord(p *pair) {
	p.t.Helper()
	whole := p.b.all[:strings.LastIndexByte(p.b.all, '\n')+1]
	begins, _ := wire.Word(whole)
	if _, broken := p.m.Broken(); !broken && !begins {
		p.t.Fatalf("%s does not break it, and is no beginning of a word", short(p.b.all))
	}
}

// wantBroken is that what is no beginning of a word breaks it.
func wantBroken(p *pair) {
	p.t.Helper()
	whole := p.b.all[:strings.LastIndexByte(p.b.all, '\n')+1]
	begins, _ := wire.Word(whole)
	if _, broken := p.m.Broken(); !begins && !broken {
		p.t.Fatalf("%s is no beginning of a word, and does not break it", short(p.b.all))
	}
}

// All short lists of lines of every class, and of some that are none.
func TestM7EveryShortList(t *testing.T) {
	lines := []string{"%begin 1 1 1", "%begin 1 2 1", "%end 1 1 1", "%error 1 1 1", "%end 1 2 1", "x", "", "%message m", "%exit", "%exit x", "%pane-add %1 0", "%output %1 a", "%nothing"}
	lists, whole, whileOpen := 0, 0, 0
	walk(t, lines, 6, "", func(p *pair) {
		wantWord(p)
		wantBroken(p)
		lists++
		if _, broken := p.m.Broken(); broken {
			return
		}
		if _, word := wire.Word(p.b.all); word {
			whole++
		} else {
			whileOpen++
		}
	})
	if lists < 10000 || whole < 1000 || whileOpen < 1000 {
		t.Errorf("%d lists, %d whole words, %d within a block", lists, whole, whileOpen)
	}
}

// Where only classes are asked for, a mirror asks for no more: of lines that any state takes, each word is taken.
func TestM7WordsAreTaken(t *testing.T) {
	lines := []string{"%begin 1 1 1", "%end 1 1 1", "%error 1 1 1", "x", "%message m", "%session-changed $1 a", "%subscription-changed w $1 @1 0 %1 : v", "%exit"}
	walk(t, lines, 5, "", func(p *pair) {
		begins, _ := wire.Word(p.b.all)
		if _, broken := p.m.Broken(); broken == begins {
			t.Fatalf("%s: a beginning of a word: %v, broken: %v", short(p.b.all), begins, broken)
		}
	})
}

// Lines by chance: M7 behind each.
func TestM7ByChance(t *testing.T) {
	for seed := range int64(200) {
		w := newWriter(t, 5000+seed)
		w.write(20)
		wantWord(w.pair)
		wantBroken(w.pair)
	}
}

// Every short list of pauses, goings-on and bytes, at offsets around the end: M8 behind each, which pair looks at.
func TestM8EveryShortList(t *testing.T) {
	lines := []string{
		"%output %1 a", "%output %1 bcd", "%pause %1 4", "%pause %1 5", "%pause %1 6", "%pause %1 7", "%pause %1 9",
		"%continue %1 4", "%continue %1 5", "%continue %1 6", "%continue %1 7", "%continue %1 9", "%continue %1 12",
	}
	most, joined := 0, 0
	walk(t, lines, 6, "%pane-add %1 5\n", func(p *pair) {
		f := p.m.Feeds()
		if len(f) != 1 || f[0].Start != 5 || f[0].Pane != 1 {
			t.Fatalf("behind %s the feeds are %+v", short(p.b.all), f)
		}
		most = max(most, len(f[0].Gaps))
		if len(f[0].Gaps) == 1 && f[0].Text == "" && f[0].Gaps[0].To-f[0].Gaps[0].From == 7 {
			joined++
		}
	})
	if most < 2 || joined < 10 {
		t.Errorf("at most %d gaps, %d times one that was joined", most, joined)
	}
}

// Two panes in turns: what comes of the one is not the other's.
func TestM8TwoPanes(t *testing.T) {
	lines := []string{"%output %1 a", "%output %2 xy", "%pause %1 1", "%pause %2 2", "%continue %1 3", "%continue %2 2", "%pane-close %1", "%pane-add %1 1"}
	walk(t, lines, 5, "%pane-add %2 0\n%pane-add %1 0\n", func(*pair) {})
}
