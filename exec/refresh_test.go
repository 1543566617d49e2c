package exec

import (
	"strings"
	"testing"

	"mullion/api"
)

func pauses(pane int) api.Act    { return api.Act{Kind: api.ActPause, Pane: pane} }
func continues(pane int) api.Act { return api.Act{Kind: api.ActContinue, Pane: pane} }
func ages(n int) api.Act         { return api.Act{Kind: api.ActAge, N: n} }
func unwatches(name string) api.Act {
	return api.Act{Kind: api.ActUnwatch, Name: name}
}
func watches(name, what, text string) api.Act {
	return api.Act{Kind: api.ActWatch, Name: name, What: what, Text: text}
}

func TestE2RefreshPauses(t *testing.T) {
	d := world(t)
	d.asks("refresh", 1).asks("refresh -A %1:pause", 1, pauses(1)).asks("refresh -A %4:continue", 1, continues(4)).at(0).asks("refresh -A %2:pause", 0, pauses(2))
	for _, value := range []string{"", ":", "%", "%1", "%1:", "1:pause", "@1:pause", "$1:pause", "%0:pause", "%01:pause", "%1:Pause", "%1:pause ", " %1:pause", "%1:pause:", "%1:on", "%1:off", "%:pause", ":pause", "pause", "%-1:pause", "%4611686018427387905:pause", "%9:on", "%*:pause", "%1::pause"} {
		d.fails("refresh -A '"+value+"'", api.ErrValue, value)
	}
	for _, value := range []string{"%5:pause", "%9:continue", "%4611686018427387904:pause"} {
		d.fails("refresh -A "+value, api.ErrTarget, value)
	}
	d.ok("killp -t %2").fails("refresh -A %2:pause", api.ErrTarget, "%2:pause")
}

func TestE2RefreshWatches(t *testing.T) {
	d := world(t)
	d.asks("refresh -B w", 1, unwatches("w")).asks("refresh -B w::", 1, watches("w", "", "")).asks("refresh -B 'w:%*:#{pane_bytes}'", 1, watches("w", "%*", "#{pane_bytes}"))
	d.asks("refresh -B 'w:@*:a:b::c'", 1, watches("w", "@*", "a:b::c")).asks("refresh -B w:%1:x", 1, watches("w", "%1", "x")).asks("refresh -B w:@77:x", 1, watches("w", "@77", "x")).asks("refresh -B 'w::#{not a format'", 1, watches("w", "", "#{not a format"))
	d.asks("refresh -B 'w:%4611686018427387904: a b '", 1, watches("w", "%4611686018427387904", " a b "))
	name := strings.Repeat("n", api.MaxName)
	d.asks("refresh -B "+name, 1, unwatches(name)).asks("refresh -B "+name+"::", 1, watches(name, "", "")).asks("refresh -B 1#x", 1, unwatches("1#x"))
	for _, value := range []string{"", ":", "::", ":::", "a b", "a b::x", " a", "w:", "w:x", "w:%1", "w:%*", ":%*:x", "w:x:", "w:*:x", "w:%:x", "w:@:x", "w:%0:x", "w:@01:x", "w:$1:x", "w:1:x", "w: :x", "w:%1 :x", "w:%**:x", "w:%4611686018427387905:x", "-w::x", "a.b", "a.b::x", name + "n", name + "n::x", "%1", "@1::x", "=w", "w\x01::x", "w\xff"} {
		d.fails("refresh -B '"+value+"'", api.ErrValue, value)
	}
}

func TestE2RefreshAge(t *testing.T) {
	d := world(t)
	d.asks("refresh -f pause-after=1", 1, ages(1)).asks("refresh -f pause-after=0", 1, ages(0)).asks("refresh -f pause-after=1000", 1, ages(1000)).asks("refresh -f '!pause-after'", 1, ages(0))
	for _, value := range []string{"", "pause-after", "pause-after=", "pause-after=1001", "pause-after=01", "pause-after=-1", "pause-after= 1", "pause-after=1 ", "pause-after=x", "pause-after=4611686018427387904", "!pause-after=1", "!pause-after ", "!", "5", "=5", "Pause-after=5", "pause-after=pause-after=5"} {
		d.fails("refresh -f '"+value+"'", api.ErrValue, value)
	}
}

// All three, in the order -A, -B, -f, however they stand in the line; if one fails, all do.
func TestE2RefreshTogether(t *testing.T) {
	d := world(t)
	d.asks("refresh -f pause-after=7 -B w::x -A %1:pause", 1, pauses(1), watches("w", "", "x"), ages(7))
	d.asks("refresh -B w -A %1:continue", 1, continues(1), unwatches("w")).asks("refresh -f '!pause-after' -A %1:continue", 1, continues(1), ages(0)).asks("refresh -f pause-after=2 -B w", 1, unwatches("w"), ages(2))
	d.fails("refresh -f x -B : -A y", api.ErrValue, "y").fails("refresh -f x -B : -A %9:pause", api.ErrTarget, "%9:pause").fails("refresh -f x -B : -A %1:pause", api.ErrValue, ":").fails("refresh -f x -B w -A %1:pause", api.ErrValue, "x").fails("refresh -f pause-after=1 -B w -A %9:pause", api.ErrTarget, "%9:pause").fails("refresh -f pause-after=1 -B ''", api.ErrValue, "")
	was := whole(d.st)
	d.asks("refresh -f pause-after=7 -B w::x -A %1:pause", 1, pauses(1), watches("w", "", "x"), ages(7))
	if whole(d.st) != was {
		t.Error("it has changed")
	}
}
