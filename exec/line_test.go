package exec

import (
	"slices"
	"strconv"
	"strings"
	"testing"

	"mullion/api"
)

func decimal(n int) string { return strconv.Itoa(n) }

// refuses gives a line of which nothing is done, whatever the client's session is.
func (d *desk) refuses(line api.Line, err api.Errno, about string) {
	d.t.Helper()
	was := whole(d.st)
	for _, here := range []int{d.here, 0, 2, 77, -1} {
		a := Line(d.st, here, line)
		if want := (api.Answer{Body: []string{Message(err, about)}, Here: here, Err: err, About: about}); told(a) != told(want) {
			d.t.Fatalf("%.99q answers %.200s, and not %.200s", line.Text, told(a), told(want))
		}
	}
	if whole(d.st) != was {
		d.t.Fatalf("%.99q is refused, and has changed the store", line.Text)
	}
}

func TestE1LongLine(t *testing.T) {
	d := world(t)
	for _, text := range []string{"", "new", "a 'b", "nothing", strings.Repeat("x", 9000)} {
		d.refuses(api.Line{Text: text, Long: true}, api.ErrLong, "line")
	}
	d.refuses(api.Line{Text: "new" + strings.Repeat(" ", api.MaxLine-2)}, api.ErrLong, "line")
	d.refuses(api.Line{Text: strings.Repeat("'", api.MaxLine+1)}, api.ErrLong, "line")
	if got := Message(api.ErrLong, "line"); got != "too long: line" {
		t.Errorf("%q", got)
	}
	d.ok("new -d" + strings.Repeat(" ", api.MaxLine-6)).has("$3 3 0@4 now 0 last -1")
}

func TestE1LexRefuses(t *testing.T) {
	d := world(t)
	for line, place := range map[string]int{
		`a "b`: 2, `'`: 0, `new ; "`: 6, `new ; 'x`: 6, `neww\`: 4, `neww "a\`: 5, `"\"`: 0, `neww "a" ; neww 'a" ; x`: 16,
		strings.Repeat(" ", 8191) + `"`: 8191,
	} {
		d.refuses(api.Line{Text: line}, api.ErrQuote, "byte "+decimal(place))
	}
	// The quote counts ahead of the words, and both ahead of commands that can't be read.
	words := strings.Repeat("a ", 65)
	d.refuses(api.Line{Text: words + "'"}, api.ErrQuote, "byte 130")
	d.refuses(api.Line{Text: words}, api.ErrWords, "line")
	d.refuses(api.Line{Text: strings.Repeat("neww;", 17)}, api.ErrWords, "line")
	d.refuses(api.Line{Text: "send " + words[:2*64]}, api.ErrWords, "line")
	d.ok("send -t %1 "+words[:2*61]).typed(1, strings.Repeat("a", 61))
	d.ok(strings.Repeat("rename x;", 16)).has("$1 x 0@1 1@2 now 1 last 0")
}

// The first command, in order, that can't be read: nothing is done, of those ahead of it too.
func TestE1VerbRefuses(t *testing.T) {
	d := world(t)
	for _, x := range []struct {
		line  string
		err   api.Errno
		about string
	}{
		{"nothing", api.ErrVerb, "nothing"},
		{"''", api.ErrVerb, ""},
		{"renamew x ; nothing ; renamew y", api.ErrVerb, "nothing"},
		{"s", api.ErrChoice, "s"},
		{"neww ; kill-s -x", api.ErrChoice, "kill-s"},
		{"neww -x", api.ErrFlag, "-x"},
		{"neww ; neww -dxn", api.ErrFlag, "-x"},
		{"neww -t", api.ErrNeeds, "-t"},
		{"splitw ; splitw -l", api.ErrNeeds, "-l"},
		{"rename", api.ErrCount, "rename-session"},
		{"splitw ; ls a", api.ErrCount, "list-sessions"},
		{"rename ; nothing", api.ErrCount, "rename-session"},
		{"nothing ; rename", api.ErrVerb, "nothing"},
		{"killw -t 9 ; nothing", api.ErrVerb, "nothing"},
		{"lsw -F #W", api.ErrNeeds, "-F"},
	} {
		d.refuses(api.Line{Text: x.line}, x.err, x.about)
	}
}

func TestE1NoCommand(t *testing.T) {
	d := world(t)
	was := whole(d.st)
	for _, line := range []string{"", " ", "\t", ";", ";;; ;", "# new", "   #", "#new ; new", strings.Repeat(";", api.MaxLine)} {
		for _, here := range []int{0, 1, 2, 77, -1} {
			a := Line(d.st, here, api.Line{Text: line})
			if told(a) != told(api.Answer{Here: here}) {
				t.Errorf("%.20q answers %s", line, told(a))
			}
		}
	}
	if whole(d.st) != was {
		t.Error("the store has changed")
	}
}

// Each command is done with the session in which the client is then.
func TestE1EachInItsSession(t *testing.T) {
	d := empty(t)
	for _, x := range []struct {
		line, body string
		acts       []int
		here       int
	}{
		{"new -s a ; display -p 'at #S' ; new -s b ; display -p 'at #S' ; switchc -t a ; display -p 'at #S'", "at a/at b/at a", []int{1, 2, 1}, 1},
		{"display -p 'at #S' ; switchc -n ; display -p 'at #S' ; switchc -n ; display -p 'at #S'", "at a/at b/at a", []int{2, 1}, 1},
		{"new -d -s c ; display -p 'at #S' ; new -s d -P ; display -p 'at #S' ; neww -P", "at a/d:0.0/at d/d:1.0", []int{4}, 4},
		{"switchc -t d ; display -p 'at #S'", "at d", nil, 4},
	} {
		var acts []api.Act
		for _, session := range x.acts {
			acts = append(acts, goes(session))
		}
		a := d.line(x.line)
		if want := (api.Answer{Body: strings.Split(x.body, "/"), Acts: acts, Here: x.here}); told(a) != told(want) {
			t.Fatalf("%s answers %s, and not %s", x.line, told(a), told(want))
		}
		d.here = a.Here
	}
}

// A session that has been closed meanwhile stays the client's.
func TestE1ClosedMeanwhile(t *testing.T) {
	d := world(t)
	a := d.line("new -s x ; kill-session ; ls ; display -p ' '")
	want := api.Answer{Body: []string{"work: 2 windows", "play: 2 windows", "no current session"}, Acts: []api.Act{goes(3)}, Here: 3, Err: api.ErrNowhere}
	if told(a) != told(want) {
		t.Errorf("%s, and not %s", told(a), told(want))
	}
	a = d.line("kill-session -t play ; kill-session")
	if told(a) != told(api.Answer{Here: 1}) {
		t.Errorf("%s", told(a))
	}
	d.is("")
	d.fails("neww", api.ErrNowhere, "").fails("neww -t work:", api.ErrTarget, "work:")
	d.asks("new -s again", 4, goes(4)).is("$4 again 0@5 now 0 last -1", "@5 sh 80x24%6 now 6 last 0")
}

// The first that fails ends it: what was done ahead of it stays, with its lines and what it asks.
func TestE1TheFirstThatFails(t *testing.T) {
	d := world(t)
	a := d.line("renamew x ; lsw -F '#W' ; detach ; new -s n ; lsp -F '%' ; killp -t %9 ; renamew y ; detach ; ls")
	want := api.Answer{
		Body: []string{"sh", "x", "%", "not found: %9"},
		Acts: []api.Act{{Kind: api.ActDetach}, goes(3)},
		Here: 3, Err: api.ErrTarget, About: "%9",
	}
	if told(a) != told(want) {
		t.Errorf("%s, and not %s", told(a), told(want))
	}
	d.is("$1 work 0@1 1@2 now 1 last 0", "$2 play 0@3 5@1 now 0 last -1", "$3 n 0@4 now 0 last -1",
		"@1 sh 80x24%1 now 1 last 0", "@2 x 80x24{40x24%2 39x24%3} now 3 last 2", "@3 toy 80x24%4 now 4 last 0", "@4 sh 80x24%5 now 5 last 0")
	a = d.line("renamew a:b ; renamew z")
	if want := (api.Answer{Body: []string{"bad name: rename-window"}, Here: 1, Err: api.ErrName, About: "rename-window"}); told(a) != told(want) {
		t.Errorf("%s, and not %s", told(a), told(want))
	}
	a = d.line("renamew z ; renamew a:b")
	if a.Err != api.ErrName || len(a.Body) != 1 {
		t.Errorf("%s", told(a))
	}
	d.has("@2 z 80x24{40x24%2 39x24%3} now 3 last 2")
}

// repeated is a line of the same command several times.
func repeated(command string, n int) string {
	return strings.Join(slices.Repeat([]string{command}, n), ";")
}

// tooLong gives a line whose answer is too long, and asks this.
func (d *desk) tooLong(line string, here int, acts ...api.Act) {
	d.t.Helper()
	a := d.line(line)
	want := api.Answer{Body: []string{"too long: answer"}, Acts: acts, Here: here, Err: api.ErrLong, About: "answer"}
	if told(a) != told(want) {
		d.t.Fatalf("%.99s answers %.300s", line, told(a))
	}
}

// fits gives a line whose answer is just not too long.
func (d *desk) fits(line string, lines int) {
	d.t.Helper()
	if a := d.line(line); a.Err != api.OK || len(a.Body) != lines {
		d.t.Fatalf("%.99s answers %.300s", line, told(a))
	}
}

// 8 lines of 1023 bytes, each with one more, are just MaxBody.
func TestE1LongAnswers(t *testing.T) {
	d := world(t)
	full := repeated("display -p '#{p1023:x}'", 8)
	d.fits(full, 8)
	d.tooLong(full+"; display -p ''", 1)
	d.tooLong(repeated("display -p '#{p1023:x}'", 7)+"; display -p '#{p1024:x}'", 1)
	d.fits(repeated("display -p '#{p1023:x}'", 7)+"; display -p '#{p1022:x}' ; display -p ''", 9)
	d.tooLong(repeated("display -p '#{p1023:x}'", 7)+"; display -p '#{p1022:x}' ; display -p '' ; display -p ''", 1)
	// As they would be escaped: a % ahead, a backslash and bytes below 32 anywhere are four bytes.
	for _, odd := range []string{"'%'", `'\'`, `"\001"`, `"\n"`, `"\037"`} {
		half := odd[:len(odd)-1]
		tail := odd[len(odd)-1:]
		d.fits(repeated("display -p "+half+"#{p1019:x}"+tail, 8), 8)
		d.tooLong(repeated("display -p "+half+"#{p1019:x}"+tail, 7)+"; display -p "+half+"#{p1020:x}"+tail, 1)
	}
	for _, even := range []string{"'a%'", `"\177"`, `"\377"`, "' %'"} {
		size := 1022
		if even[0] == '\'' {
			size = 1021
		}
		d.fits(repeated("display -p "+even[:len(even)-1]+"#{p"+decimal(size)+":x}"+even[len(even)-1:], 8), 8)
		d.tooLong(repeated("display -p "+even[:len(even)-1]+"#{p"+decimal(size)+":x}"+even[len(even)-1:], 8)+"; display -p ''", 1)
	}
	// A command alone is not bounded.
	a := Do(d.st, 1, d.command("lscm"))
	if a.Err != api.OK || len(a.Body) != 32 {
		t.Errorf("%s", told(a))
	}
	many := filled(t, 1, 1, 32, 1)
	if a := Do(many.st, 1, many.command("lsp -F '#{p1000:x}'")); a.Err != api.OK || len(a.Body) != 32 || len(a.Body[31]) != 1000 {
		t.Errorf("%.300s", told(a))
	}
	many.tooLong("lsp -F '#{p1000:x}'", 1)
}

// What was done stays done; what is asked, and where the client is then, stays.
func TestE1LongAnswersStayDone(t *testing.T) {
	d := world(t)
	full := repeated("display -p '#{p1023:x}'", 8)
	d.tooLong("renamew x ; detach ; "+full+"; new -s n -P", 3, api.Act{Kind: api.ActDetach}, goes(3))
	d.has("@2 x 80x24{40x24%2 39x24%3} now 3 last 2", "$3 n 0@4 now 0 last -1")
	// The line that tells an error counts too: of a command that failed the answer is none the less too long.
	d.tooLong("new -s m ; "+full+"; killp -t %99 ; renamew y", 4, goes(4))
	d.has("$4 m 0@5 now 0 last -1", "@5 sh 80x24%6 now 6 last 0")
	a := d.line(repeated("display -p '#{p1023:x}'", 7) + "; killp -t %99 ; renamew y")
	if a.Err != api.ErrTarget || len(a.Body) != 8 {
		t.Errorf("%.300s", told(a))
	}
}

// An error's own line may be too long: that of a command that can't be read, and of one that fails.
func TestE1LongMessages(t *testing.T) {
	d := world(t)
	name := strings.Repeat("n", api.MaxBody-1-len("unknown command: "))
	d.refuses(api.Line{Text: name}, api.ErrVerb, name)
	d.tooLong(name+"n", 1)
	d.tooLong("renamew x ; "+name+"n", 1)
	d.has("@2 edit 80x24{40x24%2 39x24%3} now 3 last 2")
	value := strings.Repeat("v", api.MaxBody-1-len("not found: "))
	d.fails("killw -t"+value, api.ErrTarget, value)
	d.tooLong("killw -t"+value+"v", 1)
	d.fails("killw -t'"+strings.Repeat("\x01", 2045)+"'", api.ErrTarget, strings.Repeat("\x01", 2045))
	d.tooLong("killw -t'"+strings.Repeat("\x01", 2046)+"'", 1)
	d.ok("display -p x", "x")
}

// The chapter's own examples, in their order.
func TestE1Examples(t *testing.T) {
	d := empty(t)
	a := d.line("new-session -s work -P")
	if want := (api.Answer{Body: []string{"work:0.0"}, Acts: []api.Act{goes(1)}, Here: 1}); told(a) != told(want) {
		t.Fatalf("%s", told(a))
	}
	d.here = 1
	d.ok("splitw -h ; lsp", "0: [40x24] %1", "1: [39x24] %2 (active)")
	d.ok(`lsw -F "#{window_index}#{window_flags}"`, "0*")
	d.fails("killw -t 9", api.ErrTarget, "9")
	d.refuses(api.Line{Text: "renamew x ; nothing ; renamew y"}, api.ErrVerb, "nothing")
	if a := d.line("renamew x ; killp -t %9 ; renamew y"); !slices.Equal(a.Body, []string{"not found: %9"}) {
		t.Fatalf("%s", told(a))
	}
	d.has("@1 x 80x24{40x24%1 39x24%2} now 2 last 1")
	d.ok("")
	d.at(0).fails("splitw", api.ErrNowhere, "")
	d.refuses(api.Line{Text: `a "b`}, api.ErrQuote, "byte 2")
}
