package wire

import (
	"math"
	"reflect"
	"strconv"
	"strings"
	"testing"

	"mullion/api"
)

// rows is the table of chapter 3, line by line: a thing in great letters stands for what the row's field is written as.
var rows = []struct {
	kind  int
	class int
	line  string
}{
	{api.EvBegin, ClassBegin, "%begin TICK NUMBER FLAG"},
	{api.EvEnd, ClassEnd, "%end TICK NUMBER FLAG"},
	{api.EvError, ClassEnd, "%error TICK NUMBER FLAG"},
	{api.EvBody, ClassBody, "BODY"},
	{api.EvOutput, ClassTold, "%output PANE DATA"},
	{api.EvPause, ClassTold, "%pause PANE OFFSET"},
	{api.EvContinue, ClassTold, "%continue PANE OFFSET"},
	{api.EvPaneAdd, ClassTold, "%pane-add PANE OFFSET"},
	{api.EvPaneClose, ClassTold, "%pane-close PANE"},
	{api.EvWindowAdd, ClassTold, "%window-add WINDOW NAME"},
	{api.EvWindowClose, ClassTold, "%window-close WINDOW"},
	{api.EvWindowRenamed, ClassTold, "%window-renamed WINDOW NAME"},
	{api.EvLayout, ClassTold, "%layout-change WINDOW LAYOUT VISIBLE FLAGS"},
	{api.EvPaneChanged, ClassTold, "%window-pane-changed WINDOW PANE"},
	{api.EvSessionAdd, ClassTold, "%session-add SESSION NAME"},
	{api.EvSessionClose, ClassTold, "%session-close SESSION"},
	{api.EvSessionRenamed, ClassTold, "%session-renamed SESSION NAME"},
	{api.EvLink, ClassTold, "%window-link SESSION INDEX WINDOW"},
	{api.EvUnlink, ClassTold, "%window-unlink SESSION INDEX"},
	{api.EvSessionWindow, ClassTold, "%session-window-changed SESSION INDEX"},
	{api.EvSession, ClassTold, "%session-changed SESSION NAME"},
	{api.EvWatch, ClassTold, "%subscription-changed WORD SESSION WINDOW INDEX PANE : VALUE"},
	{api.EvMessage, ClassTold, "%message TEXT"},
	{api.EvExit, ClassExit, "%exit REASON"},
}

// thing is what stands for a field in a row: the field's name in api.Event, what may stand there and what may not.
type thing struct {
	field     string
	good, bad []any
}

func texts(all ...string) []any {
	var l []any
	for _, s := range all {
		l = append(l, s)
	}
	return l
}

func numbers(all ...int) []any {
	var l []any
	for _, n := range all {
		l = append(l, n)
	}
	return l
}

func everyByte() string {
	all := make([]byte, 256)
	for i := range all {
		all[i] = byte(i)
	}
	return string(all)
}

// bare are texts that any text field may bear, up to its length.
func bare() []string {
	return []string{"a", "a b", " ", "  ", "\n", "\\", "%", "%end 1 1 1", "%exit", "x : y", "\x7f", "\xff\xfe", "\x00\x1f", "é", "\\012", everyByte()}
}

func lengths(n int) []string {
	return []string{strings.Repeat("x", n), strings.Repeat("\n", n), strings.Repeat("\\", n), strings.Repeat(" ", n), strings.Repeat("%", n)}
}

// ways is made once: it holds great texts.
var ways = things()

func things() map[string]thing {
	number := numbers(0, 1, 9, 10, 4096, math.MaxInt32+1, api.MaxNumber-1, api.MaxNumber)
	noNumber := numbers(-1, api.MaxNumber+1, math.MinInt, math.MaxInt)
	id := number[1:]
	noId := append(numbers(0), noNumber...)
	index := numbers(0, 1, 10, api.MaxIndex-1, api.MaxIndex)
	noIndex := numbers(-1, api.MaxIndex+1, api.MaxNumber, math.MinInt, math.MaxInt)
	word := texts("a", "~", "0", "}", "a%$@=+-!^{", strings.Repeat("w", api.MaxName), "\\012", "x")
	noWord := texts("", " ", " a", "a ", "a:b", "a.b", "a\nb", "a\x1f", "a\x7f", "é", "\xff", "$a", "@a", "%a", "=a", "+a", "-a", "!a", "^a", "{a",
		strings.Repeat("w", api.MaxName+1), strings.Repeat("w", api.MaxName-1)+" ")
	plan := texts("0", "x", "0123456789abcdefx,{}[]", "[]{},", strings.Repeat("f", api.MaxPlan), strings.Repeat(",", api.MaxPlan-1))
	noPlan := texts("", " ", "0 0", " 0", "0 ", "g", "A", "X", "0\n", "-", "(", "\x80", "é", "0Z", strings.Repeat("f", api.MaxPlan+1))
	all := map[string]thing{
		"TICK":    {"Tick", number, noNumber},
		"NUMBER":  {"Number", number, noNumber},
		"OFFSET":  {"Offset", number, noNumber},
		"FLAG":    {"Flag", numbers(0, 1), numbers(-1, 2, 10, api.MaxNumber, math.MinInt, math.MaxInt)},
		"SESSION": {"Session", id, noId},
		"WINDOW":  {"Window", id, noId},
		"PANE":    {"Pane", id, noId},
		"INDEX":   {"Index", index, noIndex},
		"NAME":    {"Name", append(texts("work 2", "a  b", "a %end 1 1 1", "a"+strings.Repeat(" ", api.MaxName-2)+"b"), word...), noWord},
		"WORD":    {"Name", word, append(texts("work 2", "a  b"), noWord...)},
		"LAYOUT":  {"Layout", plan, noPlan},
		"VISIBLE": {"Visible", plan, noPlan},
		"FLAGS":   {"Zoom", []any{false, true}, nil},
		"BODY":    {"Text", texts(append(append(bare(), ""), lengths(100000)...)...), nil},
	}
	for name, most := range map[string]int{"DATA": api.MaxOutput, "VALUE": api.MaxText, "TEXT": api.MaxText, "REASON": api.MaxText} {
		good := texts(append(bare(), lengths(most)...)...)
		bad := texts(append(lengths(most+1), lengths(5*most)...)...)
		if name == "DATA" {
			bad = append(bad, "")
		} else {
			good = append(good, "")
		}
		all[name] = thing{"Text", good, bad}
	}
	return all
}

// thingsOf are the things that a row names.
func thingsOf(line string) []string {
	var l []string
	for _, w := range strings.Fields(line) {
		if strings.ToUpper(w) == w && w != ":" {
			l = append(l, w)
		}
	}
	return l
}

func put(e *api.Event, field string, v any) {
	reflect.ValueOf(e).Elem().FieldByName(field).Set(reflect.ValueOf(v))
}

// octals writes bytes as chapter 1 says.
func octals(s string) string {
	var out strings.Builder
	for i := range len(s) {
		if s[i] < 32 || s[i] == '\\' {
			out.WriteString("\\" + strconv.FormatInt(int64(s[i])+01000, 8)[1:])
		} else {
			out.WriteByte(s[i])
		}
	}
	return out.String()
}

// shown is how the row's thing is written.
func shown(e api.Event, what string) string {
	switch what {
	case "TICK":
		return strconv.Itoa(e.Tick)
	case "NUMBER":
		return strconv.Itoa(e.Number)
	case "OFFSET":
		return strconv.Itoa(e.Offset)
	case "FLAG":
		return strconv.Itoa(e.Flag)
	case "INDEX":
		return strconv.Itoa(e.Index)
	case "SESSION":
		return "$" + strconv.Itoa(e.Session)
	case "WINDOW":
		return "@" + strconv.Itoa(e.Window)
	case "PANE":
		return "%" + strconv.Itoa(e.Pane)
	case "NAME", "WORD":
		return e.Name
	case "LAYOUT":
		return e.Layout
	case "VISIBLE":
		return e.Visible
	case "FLAGS":
		return map[bool]string{false: "-", true: "Z"}[e.Zoom]
	case "DATA", "VALUE", "TEXT", "REASON":
		return octals(e.Text)
	case "BODY":
		if strings.HasPrefix(e.Text, "%") {
			return "\\045" + octals(e.Text[1:])
		}
		return octals(e.Text)
	case ":":
		return ":"
	}
	return what
}

// lineOf is the line that the row asks for, put together thing by thing.
func lineOf(e api.Event, line string) string {
	if e.Kind == api.EvExit && e.Text == "" {
		return "%exit"
	}
	var l []string
	for _, w := range strings.Split(line, " ") {
		l = append(l, shown(e, w))
	}
	return strings.Join(l, " ")
}

// plain is an everyday event of a row, with no two numbers alike.
func plain(kind int, line string) api.Event {
	e := api.Event{Kind: kind}
	for _, w := range thingsOf(line) {
		switch w {
		case "FLAG":
			e.Flag = 1
		case "FLAGS":
			e.Zoom = true
		case "WORD":
			e.Name = "watch"
		case "NAME":
			e.Name = "work 2"
		case "LAYOUT":
			e.Layout = "b25d,80x24,0,0,1"
		case "VISIBLE":
			e.Visible = "c,1x1[0]{2}"
		case "DATA", "VALUE", "TEXT", "REASON", "BODY":
			e.Text = "a\nb : \\ c"
		default:
			put(&e, ways[w].field, map[string]int{"TICK": 31, "NUMBER": 42, "OFFSET": 530, "SESSION": 6, "WINDOW": 71, "PANE": 80, "INDEX": 9}[w])
		}
	}
	return e
}

// goodEvents are writable events of every kind, each with the line that its row asks for.
func goodEvents() map[api.Event]string {
	all := map[api.Event]string{}
	for _, r := range rows {
		names := thingsOf(r.line)
		most := plain(r.kind, r.line)
		all[most] = lineOf(most, r.line)
		for _, w := range names {
			good := ways[w].good
			for _, v := range good {
				e := plain(r.kind, r.line)
				put(&e, ways[w].field, v)
				all[e] = lineOf(e, r.line)
			}
			put(&most, ways[w].field, good[len(good)-1])
			all[most] = lineOf(most, r.line)
		}
	}
	return all
}

// badEvents are events with one field that may not be so.
func badEvents() []api.Event {
	var all []api.Event
	for _, r := range rows {
		for _, w := range thingsOf(r.line) {
			for _, v := range ways[w].bad {
				e := plain(r.kind, r.line)
				put(&e, ways[w].field, v)
				all = append(all, e)
			}
		}
	}
	return all
}

func short(s string) string {
	if len(s) > 200 {
		return s[:200] + ".."
	}
	return s
}

func TestRowsOfTheTestsAreAll(t *testing.T) {
	for i, r := range rows {
		if r.kind != i+1 {
			t.Fatalf("row %d is of kind %d", i, r.kind)
		}
	}
	if len(rows) != api.EvBad-1 {
		t.Fatalf("%d rows for %d kinds", len(rows), api.EvBad-1)
	}
}
