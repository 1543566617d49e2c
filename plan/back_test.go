package plan

import (
	"slices"
	"testing"

	"mullion/api"
)

func TestPL5ThereAndBack(t *testing.T) {
	for _, l := range manyLayouts(t) {
		s, e := Text(l)
		if e != api.OK {
			t.Fatalf("Text of %v: error %d", l, e)
		}
		back, e := Parse(s)
		if e != api.OK || !slices.Equal(back, l) {
			t.Fatalf("Parse(%q): %v, error %d, not %v", s, back, e, l)
		}
	}
}

// Whatever text Parse takes, Text gives it back.
func TestPL5OneTextALayout(t *testing.T) {
	taken := 0
	for _, w := range written {
		for _, body := range append(editedBodies(w.body, "0123456789x,{}[]+"), w.body) {
			s := summed(body)
			l, e := Parse(s)
			if e != api.OK {
				continue
			}
			taken++
			if back, e := Text(l); back != s || e != api.OK {
				t.Errorf("Text = %q, error %d, of %q", back, e, s)
			}
		}
	}
	if taken < 100 {
		t.Errorf("%d texts were taken: that tells little", taken)
	}
}

// Two layouts that differ have different texts.
func TestPL5OneLayoutAText(t *testing.T) {
	first := map[string][]api.Cell{}
	for _, l := range manyLayouts(t) {
		s, _ := Text(l)
		if other, ok := first[s]; ok && !slices.Equal(l, other) {
			t.Fatalf("%q is the text of %v and of %v", s, l, other)
		}
		first[s] = l
	}
	if len(first) < 1000 {
		t.Errorf("%d different layouts: that tells little", len(first))
	}
}

func checkChanged(t *testing.T, s string) {
	t.Helper()
	text := []byte(s)
	for at := range text {
		was := text[at]
		for b := range 256 {
			if byte(b) == was {
				continue
			}
			text[at] = byte(b)
			if l, e := Parse(string(text)); e != api.ErrPlan && e != api.ErrSum || l != nil {
				t.Fatalf("Parse(%q): %v, error %d, and Parse of %q too", text, l, e, s)
			}
			if at >= 5 && Sum(string(text[5:])) == Sum(s[5:]) {
				t.Fatalf("the sum of %q is that of %q", text, s)
			}
		}
		text[at] = was
	}
}

func TestPL6OneByteChanged(t *testing.T) {
	for _, w := range written {
		checkChanged(t, summed(w.body))
	}
	for _, l := range run(t, 77, 40) {
		if len(l) > 9 {
			break
		}
		s, _ := Text(l)
		checkChanged(t, s)
	}
	s, _ := Text(sample(t))
	checkChanged(t, s)
}

// In the longest texts: what a byte did is still to be seen in the sum behind all the others.
func TestPL6LongTexts(t *testing.T) {
	for _, l := range [][]api.Cell{staircase(t), manyPanes(api.MaxPanes)} {
		s, _ := Text(l)
		checkChanged(t, s)
	}
}
