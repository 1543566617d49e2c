package wire

import (
	"strings"
	"testing"

	"mullion/api"
)

// badLines are the lines of no event.
var badLines = []string{
	"%", "%%", "% ", "%nothing", "%nothing 1", "%begi", "%begins 1 1 1", "begin 1 1 1\n",
	"%output %2 ", "%output %2", "%output", "%output ", "%output 2 a", "%output @2 a", "%output $2 a", "%output %02 a", "%output %0 a", "%output %-1 a", "%output %+1 a", "%output  %2 a",
	"%output %2\ta", "%output %2 a\n", "%output\n%2 a", "%output %2 \t", `%output %2 \101`, `%output %2 \040`, `%output %2 \`, `%output %2 \01`, `%output %2 \012\`, `%output %2 \n`, `%output %2 \045`, `%output %2 \0o2`,
	"%begin 3 7", "%begin 3 7 2", "%begin 3 7 01", "%begin 3 7 1 ", "%begin 3 7 1 1", "%begin  3 7 1", "%begin 3  7 1", "%begin 3 7  1", "%begin 3 7 ", "%begin 3 7 -1", "%begin 3 7 a",
	"%begin 03 7 1", "%begin 3 07 1", "%begin +3 7 1", "%begin 3 7 1\n", "\n%begin 3 7 1", " %begin 3 7 1\n", "%begin 4611686018427387905 7 1", "%begin 3 4611686018427387905 1", "%begin 99999999999999999999 7 1",
	"%Begin 3 7 1", "%BEGIN 3 7 1", "%End 3 7 1", "%ERROR 3 7 1", "%end", "%end 3 7 1 x", "%error 3 7", "%begin", "%begin ", "%begin3 7 1",
	"%pause %1", "%pause %1 ", "%pause %1 01", "%pause 1 1", "%pause %1 -1", "%continue %1 4611686018427387905", "%continue %4611686018427387905 1", "%pane-add %1 1 1", "%pane-close %", "%pane-close %1 ", "%pane-close $1", "%Pane-close %1",
	"%window-add @1", "%window-add @1 ", "%window-add @1  a", "%window-add @1 a ", "%window-add @1 a.b", "%window-add @1 a:b", "%window-add @1 -a", "%window-add @1 %a", "%window-add 1 a", "%window-add %1 a", "%window-add @01 a",
	"%window-add @1 " + strings.Repeat("a", 33), "%window-add @1 é", "%window-add @1 a\x7f", "%window-add @1 a\\012\n", "%window-renamed @1", "%window-close @1 a", "%window-close", "%window_close @1",
	"%layout-change @1 0 1", "%layout-change @1 0 1 ", "%layout-change @1 0 1 z", "%layout-change @1 0 1 Z-", "%layout-change @1 0 1 -Z", "%layout-change @1 0 1 *", "%layout-change @1 0  1 Z", "%layout-change @1  1 Z", "%layout-change @1 0 1  Z",
	"%layout-change @1 g 1 Z", "%layout-change @1 0 G Z", "%layout-change @1 A 0 Z", "%layout-change @1 0 0 0 Z", "%layout-change 1 0 1 Z", "%layout-change @1 0. 1 Z", "%layout-change @1 0 1 Z ",
	"%window-pane-changed @1", "%window-pane-changed %1 @1", "%window-pane-changed @1 @1", "%window-pane-changed @1 %1 ",
	"%session-add $1", "%session-add @1 a", "%session-add $1 $a", "%session-close $1 x", "%session-close $", "%session-renamed $1 ", "%session-changed $0 x", "%session-changed x",
	"%window-link $1 10000 @1", "%window-link $1 1 1", "%window-link $1 @1 1", "%window-link $1 01 @1", "%window-link $1 1", "%window-unlink $1 1 @1", "%window-unlink $1 ", "%window-unlink $1 10000", "%session-window-changed $1 -1", "%session-window-changed $1",
	"%subscription-changed w $1 @2 0 %3 :", "%subscription-changed w $1 @2 0 %3 : a\n", "%subscription-changed w $1 @2 0 %3 x", "%subscription-changed w $1 @2 0 %3  : x", "%subscription-changed w $1 @2 0 %3 :x", "%subscription-changed w $1 @2 0 %3 :: x",
	"%subscription-changed w v $1 @2 0 %3 : x", "%subscription-changed  $1 @2 0 %3 : x", "%subscription-changed w: $1 @2 0 %3 : x", "%subscription-changed w @1 @2 0 %3 : x", "%subscription-changed w $1 $2 0 %3 : x", "%subscription-changed w $1 @2 0 @3 : x",
	"%subscription-changed w $1 @2 10000 %3 : x", "%subscription-changed w $1 @2 0 %3 : \\", "%subscription-changed w $1 @2 00 %3 : x",
	"%message", "%message\n", "%message \n", "%message a\x1f", `%message \1`, `%message \177`, "%Message a", "%messages a",
	"%exit ", "%exit\n", "%exit a\n", "%exits", "%exit\ta", "%Exit", "%EXIT", `%exit \050`, "%exit \x00",
	"\n", "a\n", "\na", "\x00", "a\tb", `\`, `a\`, `\9`, `\01`, `\101`, `\040`, `a\045`, `\045\045`, `\046`, `\055`, "a\r", "\x1f",
	"%output %1 " + strings.Repeat("x", 257), "%output %1 " + strings.Repeat(`\012`, 257), "%message " + strings.Repeat("x", 1025), "%message " + strings.Repeat(`\134`, 1025),
	"%exit " + strings.Repeat("x", 1025), "%subscription-changed w $1 @2 0 %3 : " + strings.Repeat("x", 1025),
	"%layout-change @1 " + strings.Repeat("0", 2049) + " 0 -", "%layout-change @1 0 " + strings.Repeat("0", 2049) + " -",
}

func TestW2EveryKind(t *testing.T) {
	for want, line := range goodEvents() {
		if got := Decode(line); got != want {
			t.Fatalf("Decode(%q) = %.300v, want %.300v", short(line), got, want)
		}
	}
}

func TestW2LinesByHand(t *testing.T) {
	for line, want := range map[string]api.Event{
		`%output %2 a\012b`:                      {Kind: api.EvOutput, Pane: 2, Text: "a\nb"},
		"%output %2  ":                           {Kind: api.EvOutput, Pane: 2, Text: " "},
		"%message ":                              {Kind: api.EvMessage},
		"%message  ":                             {Kind: api.EvMessage, Text: " "},
		"%exit":                                  {Kind: api.EvExit},
		"%exit  a":                               {Kind: api.EvExit, Text: " a"},
		"":                                       {Kind: api.EvBody},
		" %exit":                                 {Kind: api.EvBody, Text: " %exit"},
		"exit":                                   {Kind: api.EvBody, Text: "exit"},
		"begin 1 1 1":                            {Kind: api.EvBody, Text: "begin 1 1 1"},
		`\045\134\012%`:                          {Kind: api.EvBody, Text: "%\\\n%"},
		"%window-renamed @7 a  b":                {Kind: api.EvWindowRenamed, Window: 7, Name: "a  b"},
		"%layout-change @1 x [] Z":               {Kind: api.EvLayout, Window: 1, Layout: "x", Visible: "[]", Zoom: true},
		"%subscription-changed w $1 @2 3 %4 : :": {Kind: api.EvWatch, Name: "w", Session: 1, Window: 2, Index: 3, Pane: 4, Text: ":"},
	} {
		if got := Decode(line); got != want {
			t.Errorf("Decode(%q) = %v, want %v", line, got, want)
		}
	}
}

func wantBad(t *testing.T, line string) {
	t.Helper()
	if e := Decode(line); e != (api.Event{Kind: api.EvBad, Text: line}) {
		t.Fatalf("Decode(%q) = %.300v", short(line), e)
	}
}

func TestW2LinesOfNoEvent(t *testing.T) {
	for _, line := range badLines {
		wantBad(t, line)
	}
	for _, line := range goodEvents() {
		wantBad(t, line+"\n")
		wantBad(t, "\n"+line)
		wantBad(t, line+"\x00")
		if strings.HasPrefix(line, "%") {
			wantBad(t, "%"+strings.ToUpper(line[1:2])+line[2:])
			wantBad(t, "%"+line)
		}
	}
}

// A line with a byte too many, too few or wrong is an event's where the table says so, and nowhere else.
func TestW2BrokenLines(t *testing.T) {
	g := newGrammar()
	for _, line := range plainLines() {
		for _, broken := range brokenLines(line) {
			if g.Class(broken) == ClassNone {
				wantBad(t, broken)
			} else if e := Decode(broken); e.Kind == api.EvBad || e.Kind == api.EvNone {
				t.Fatalf("Decode(%q) = %v", broken, e)
			}
		}
	}
}

func TestW7DecodeOfEncode(t *testing.T) {
	for e := range goodEvents() {
		line, err := Encode(e)
		if back := Decode(line); err != api.OK || back != e {
			t.Fatalf("Decode(Encode(%.300v)) = %.300v", e, back)
		}
	}
}

func TestW7EncodeOfDecode(t *testing.T) {
	lines := append(plainLines(), badLines...)
	for _, line := range plainLines() {
		lines = append(lines, brokenLines(line)...)
	}
	for _, line := range lines {
		e := Decode(line)
		back, err := Encode(e)
		if e.Kind == api.EvBad && (back != "" || err != api.ErrEvent || e.Text != line) {
			t.Fatalf("Encode(Decode(%q)) = %q, %d", short(line), short(back), err)
		}
		if e.Kind != api.EvBad && (back != line || err != api.OK) {
			t.Fatalf("Encode(Decode(%q)) = %q, %d", short(line), short(back), err)
		}
	}
}

func TestW7NoTwoEventsHaveOneLine(t *testing.T) {
	seen := map[string]api.Event{}
	for e := range goodEvents() {
		line, _ := Encode(e)
		if other, ok := seen[line]; ok {
			t.Fatalf("%q is the line of %.300v and of %.300v", short(line), e, other)
		}
		seen[line] = e
	}
}

func TestW10NoTextForgesAGuardOrAnExit(t *testing.T) {
	texts := append(bare(), "", "%begin 1 1 1", "%error 1 1 1", "%exit why", "\n%exit", "a\n%end 1 1 1\n", "\r\n%exit\n", `\045exit`, "%output %1 a", "exit", ": %exit", "\x00%exit")
	texts = append(texts, plainLines()...)
	for b := range 256 {
		texts = append(texts, string([]byte{byte(b)})+"%exit", "%exit"+string([]byte{byte(b)}))
	}
	for _, text := range texts {
		for e, want := range map[api.Event]int{
			{Kind: api.EvBody, Text: text}:                                             ClassBody,
			{Kind: api.EvOutput, Pane: 1, Text: text + "x"}:                            ClassTold,
			{Kind: api.EvWatch, Name: "w", Session: 1, Window: 1, Pane: 1, Text: text}: ClassTold,
			{Kind: api.EvMessage, Text: text}:                                          ClassTold,
		} {
			if e.Kind == api.EvOutput && len(e.Text) > api.MaxOutput {
				e.Text = text
			}
			line, err := Encode(e)
			if err != api.OK || Class(line) != want || strings.Contains(line, "\n") {
				t.Fatalf("Encode(%.300v) = %q, %d, of class %d; want %d", e, short(line), err, Class(line), want)
			}
			if want == ClassBody && strings.HasPrefix(line, "%") {
				t.Fatalf("the body line %q", short(line))
			}
		}
	}
}
