package mirror

import (
	"fmt"
	"strings"
	"testing"

	"mullion/api"
)

// at is a line that ends with an offset.
func at(head string, offset int) string { return fmt.Sprintf("%s %d", head, offset) }

func TestM3Output(t *testing.T) {
	p := greeted(t).follows("%output %1 ab", "%output %2 x", `%output %1 \012%end 3 1 1`, "%output %1 "+strings.Repeat("o", api.MaxOutput))
	p.feeds(api.Feed{Pane: 1, Start: 7, End: 20 + api.MaxOutput, Text: "ab\n%end 3 1 1" + strings.Repeat("o", api.MaxOutput)}, api.Feed{Pane: 2, End: 1, Text: "x"})
	greeted(t).breaks("%output %3 a")
	begun(t).breaks("%output %1 a")
	// A pane of a layout that was not added has no feed.
	begun(t).follows("%window-add @1 a", "%layout-change @1 "+onePlan+" "+onePlan+" -").breaks("%output %1 a")
	// Bytes of a pane that has no place in any layout are bytes too.
	begun(t).follows("%pane-add %9 1", "%output %9 a").feeds(api.Feed{Pane: 9, Start: 1, End: 2, Text: "a"})
}

// While a pane is paused its bytes are not told; when it goes on, they are.
func TestM3OutputOfAPausedPane(t *testing.T) {
	p := greeted(t).follows("%output %1 ab", "%pause %1 9")
	p.twin().breaks("%output %1 c")
	p.follows("%output %2 z").follows("%continue %1 9", "%output %1 c")
	p.feeds(api.Feed{Pane: 1, Start: 7, End: 10, Text: "abc"}, api.Feed{Pane: 2, End: 1, Text: "z"})
}

// Pauses and goings-on below, at and above the end of a pane that is paused or not.
func TestM3PausesAndOffsets(t *testing.T) {
	for offset := range 20 {
		pause, goOn := at("%pause %1", offset), at("%continue %1", offset)
		p := begun(t).follows("%pane-add %1 5", "%output %1 abc")
		p.twin().breaks(goOn)
		want := api.Feed{Pane: 1, Start: 5, End: max(8, offset), Text: "abc", Paused: true}
		if offset > 8 {
			want.Gaps = []api.Gap{{From: 8, To: offset}}
		}
		if offset < 8 {
			p.twin().breaks(pause)
		} else {
			p.twin().follows(pause).feeds(want).breaks(pause)
		}
		p.follows("%pause %1 8").twin().breaks(pause)
		want.Paused = false
		if offset < 8 {
			p.breaks(goOn)
		} else {
			p.follows(goOn).feeds(want).breaks(goOn)
		}
	}
}

func TestM3PausesOfPanesWithoutAFeed(t *testing.T) {
	for _, line := range []string{"%pause %3 0", "%continue %3 0", "%pause %3 9"} {
		begun(t).breaks(line)
		greeted(t).breaks(line)
	}
}

// One pane's pause is not another's.
func TestM3PausesAreEachPanesOwn(t *testing.T) {
	p := begun(t).follows("%pane-add %1 0", "%pane-add %2 0", "%pause %1 0")
	p.twin().breaks("%continue %2 0")
	p.follows("%pause %2 4", "%continue %1 1").feeds(
		api.Feed{Pane: 1, End: 1, Gaps: []api.Gap{{From: 0, To: 1}}}, api.Feed{Pane: 2, End: 4, Gaps: []api.Gap{{From: 0, To: 4}}, Paused: true})
}

// Gaps that touch are one; gaps with bytes between them are two.
func TestM3Gaps(t *testing.T) {
	p := begun(t).follows("%pane-add %1 5", "%output %1 ab", "%pause %1 7", "%continue %1 9", "%output %1 c")
	p.feeds(api.Feed{Pane: 1, Start: 5, End: 10, Text: "abc", Gaps: []api.Gap{{From: 7, To: 9}}})
	p.follows("%pause %1 10", "%continue %1 10").feeds(api.Feed{Pane: 1, Start: 5, End: 10, Text: "abc", Gaps: []api.Gap{{From: 7, To: 9}}})
	p.follows("%pause %1 12").feeds(api.Feed{Pane: 1, Start: 5, End: 12, Text: "abc", Gaps: []api.Gap{{From: 7, To: 9}, {From: 10, To: 12}}, Paused: true})
	p.follows("%continue %1 15").feeds(api.Feed{Pane: 1, Start: 5, End: 15, Text: "abc", Gaps: []api.Gap{{From: 7, To: 9}, {From: 10, To: 15}}})
	p.follows("%pause %1 15", "%continue %1 15", "%pause %1 16", "%continue %1 16", "%pause %1 16", "%continue %1 20")
	p.feeds(api.Feed{Pane: 1, Start: 5, End: 20, Text: "abc", Gaps: []api.Gap{{From: 7, To: 9}, {From: 10, To: 20}}})
	p.follows("%output %1 d", "%pause %1 21", "%continue %1 22").feeds(api.Feed{Pane: 1, Start: 5, End: 22, Text: "abcd", Gaps: []api.Gap{{From: 7, To: 9}, {From: 10, To: 20}, {From: 21, To: 22}}})
	// One that begins where the pane does.
	begun(t).follows("%pane-add %1 5", "%pause %1 5", "%continue %1 6", "%pause %1 8").feeds(api.Feed{Pane: 1, Start: 5, End: 8, Gaps: []api.Gap{{From: 5, To: 8}}, Paused: true})
}

// The greatest offsets have lines too.
func TestM3GreatOffsets(t *testing.T) {
	const most = api.MaxNumber
	p := begun(t).follows("%pane-add %1 0", "%output %1 a", at("%pause %1", most))
	p.feeds(api.Feed{Pane: 1, End: most, Text: "a", Gaps: []api.Gap{{From: 1, To: most}}, Paused: true})
	p.twin().breaks(at("%continue %1", most-1))
	p.follows(at("%continue %1", most), "%output %1 bc").feeds(api.Feed{Pane: 1, End: most + 2, Text: "abc", Gaps: []api.Gap{{From: 1, To: most}}})
	p.breaks(at("%pause %1", most)) // it is below the end, and no offset that has a line is above it
	begun(t).follows(at("%pane-add %1", most), "%output %1 a").feeds(api.Feed{Pane: 1, Start: most, End: most + 1, Text: "a"})
}
