package format

import (
	"math/rand"
	"strings"
	"testing"

	"mullion/api"
)

// A maker makes texts by chance.
type maker struct{ *rand.Rand }

func newMaker(seed int64) maker { return maker{rand.New(rand.NewSource(seed))} }

func (m maker) chance(percent int) bool { return m.Intn(100) < percent }

func (m maker) of(choices ...string) string { return choices[m.Intn(len(choices))] }

func (m maker) name() string {
	return m.of("window_index", "window_name", "window_zoomed_flag", "pane_id", "empty", "no", "zeros", "path", "twice", "hash", "minus", "long", "a", "most", "nothing", "l", "m", "b2_")
}

func (m maker) number() string {
	return m.of("0", "-0", "1", "2", "-1", "7", "-7", "10", "4611686018427387904", "-4611686018427387904", "4611686018427387903", "3037000499", "4611686018427387905", "01", "x", "", "window_index", "minus", "most", "#I", "#{minus}")
}

// text makes a text that may hold places in one another, of that many levels.
func (m maker) text(levels int) string {
	out := ""
	for range 1 + m.Intn(3) {
		switch k := m.Intn(12); {
		case k < 4 && levels > 0:
			out += m.place(levels - 1)
		case k < 6:
			out += m.of("##", "#,", "#}", "#S", "#W", "#I", "#P", "#D", "#F", "#x", "##{", "#\xff")
		case k == 6:
			out += m.of(",", "}", "#", "#{", ":", ";", "{", "?", "%", "\n", "é")
		case k == 7:
			out += m.name()
		default:
			out += m.of("a", "b", "/", "0", "1", " ", "ab", "-7", "A")
		}
	}
	return out
}

// part makes a part of a place.
func (m maker) part(levels int) string {
	switch {
	case m.chance(30):
		return m.name()
	case m.chance(20):
		return m.of("0", "1", "", "#I", "#{no}", "x")
	}
	return m.text(levels)
}

func (m maker) parts(n, levels int) string {
	var all []string
	for range n {
		all = append(all, m.part(levels))
	}
	return strings.Join(all, ",")
}

func (m maker) turns() string {
	var all []string
	for range 1 + m.Intn(3) {
		all = append(all, m.of("=1", "=2", "=-2", "=10", "=1024", "=-1025", "=0", "p3", "p-3", "p8", "p-12", "p1024", "p1030", "b", "d", "n", "u", "w", "s/a/b/", "s/b/ab/", "s/a//", "s/0/xyz/", "s/#}/q/", "s/ab/, /"))
	}
	if m.chance(4) {
		all = append(all, m.of("", "=", "p", "x", "s//b/", "=12345", "l", "B"))
	}
	return strings.Join(all, ";")
}

func (m maker) place(levels int) string {
	count := 2
	if m.chance(4) {
		count = 1 + m.Intn(4)
	}
	inside := m.name()
	switch k := m.Intn(20); {
	case k < 4:
		inside = "?" + m.parts(max(count, 1)+m.Intn(2), levels)
	case k < 7:
		inside = m.of("==", "!=", "<", ">", "<=", ">=", "m") + ":" + m.parts(count, levels)
	case k < 9:
		inside = m.of("||", "&&") + ":" + m.parts(count, levels)
	case k < 12:
		inside = "e|" + m.of("+", "-", "*", "/", "m", "==", "<", ">") + "|:" + m.number() + "," + m.number()
	case k == 12:
		inside = m.of("!:", "l:") + m.part(levels)
	case k < 16:
		inside = m.turns() + ":" + m.part(levels)
	case k == 16 && m.chance(20):
		inside = m.of("", " ", "a b", "zz:a", "=", "A", "?", ":", "e|+|:", "e|%|:1,2", "1")
	}
	return "#{" + inside + "}"
}

func TestP101TextsByChance(t *testing.T) {
	m := newMaker(1)
	vars := variables()
	said := map[api.Errno]int{}
	for range 60000 {
		f := m.text(1 + m.Intn(5))
		hold(t, f, vars)
		said[expanded(f, vars).err]++
	}
	for _, e := range []api.Errno{api.OK, api.ErrFormat, api.ErrLong} {
		if said[e] < 1000 {
			t.Errorf("error %d came %d times alone: chance is no test of it", e, said[e])
		}
	}
}

// Texts in which a byte was lost, changed or put in.
func TestP101SpoiltTexts(t *testing.T) {
	m := newMaker(2)
	vars := variables()
	for range 40000 {
		f := m.text(1 + m.Intn(4))
		at := m.Intn(len(f) + 1)
		behind := f[at:]
		if behind != "" && m.chance(70) {
			behind = behind[1:]
		}
		hold(t, f[:at]+m.of("", "#", "{", "}", ",", ":", ";", "?", "|", "a", "0", "-", "=", "#{", "/")+behind, vars)
	}
}

func TestP101AllShortTexts(t *testing.T) {
	vars := []api.Var{{Name: "a", Value: "v"}, {Name: "window_index", Value: "3"}}
	for _, f := range shorts([]string{"#", "{", "}", ",", "a", "I", ":"}, 5) {
		hold(t, f, vars)
	}
	for _, inside := range shorts([]string{"#{", "}", ",", "?", "a", "1", "#,", "l:", "u:"}, 4) {
		hold(t, "#{"+inside+"}", vars)
	}
	for _, inside := range shorts(strings.Split("=p-1;:asu/", ""), 4) {
		hold(t, "#{"+inside+":a}", vars)
	}
	for _, head := range shorts(strings.Split("=!<>|&em+", ""), 4) {
		hold(t, "#{"+head+":1,a}", vars)
	}
}

// Values of any bytes, and variables of any names, say what they say as bytes.
func TestP101ValuesOfAnyBytes(t *testing.T) {
	m := newMaker(3)
	for range 5000 {
		var vars []api.Var
		for range m.Intn(6) {
			vars = append(vars, api.Var{Name: m.of("a", "b", "c", "window_name", "", "A", "#{a}", "a b"), Value: m.bytes(8)})
		}
		f := m.of("#{a}#{b}", "#{?a,#{b},#{c}}", "#W", "#{u:a}", "#{n:b}", "#{=2:c}", "#{==:#{a},#{b}}", "#{m:#{a},#{b}}", "#{||:a,b}", "#{e|+|:a,b}", "#{s/a/#{a}/:b}", "#{b:a}", "#{d:b}")
		hold(t, f, vars)
	}
}

func (m maker) bytes(most int) string {
	out := make([]byte, m.Intn(most+1))
	for i := range out {
		out[i] = byte(m.Intn(256))
		if m.chance(50) {
			out[i] = "#{},:;?/ab01*["[m.Intn(14)]
		}
	}
	return string(out)
}
