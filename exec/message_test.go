package exec

import (
	"math"
	"strings"
	"testing"

	"mullion/api"
)

// texts is chapter 13's list, as it stands there.
const texts = "ErrArg `bad argument`, ErrLong `too long`, ErrFull `no room`, ErrLayout `not a layout`, ErrSide `bad size`, ErrNoPane `no such pane`, ErrSmall `no space`, ErrManyPanes `too many panes`, ErrLastPane `only pane`, ErrAlone `no border`, ErrPlan `bad layout`, ErrSum `bad sum`, ErrNoSession `no such session`, ErrNoWindow `no such window`, ErrNoIndex `no such index`, ErrName `bad name`, ErrTaken `in use`, ErrOnly `only one`, ErrQuote `open quote`, ErrWords `too many words`, ErrFormat `bad format`, ErrDeep `too deep`, ErrTarget `not found`, ErrMany `ambiguous`, ErrNowhere `no current session`, ErrVerb `unknown command`, ErrChoice `ambiguous command`, ErrFlag `unknown flag`, ErrNeeds `value needed`, ErrCount `wrong number of words`, ErrValue `bad value`"

// errnos are the errors by the names and the numbers that DOC.md gives them.
const errnos = "OK 0, ErrArg 1, ErrLong 2, ErrFull 3, ErrEscape 10, ErrEvent 30, ErrLayout 40, ErrSide 41, ErrNoPane 42, ErrPaneId 43, ErrSmall 44, ErrManyPanes 45, ErrLastPane 46, ErrAlone 47, ErrPlan 50, ErrSum 51, ErrGone 60, ErrAhead 61, ErrNoSession 70, ErrNoWindow 71, ErrNoIndex 72, ErrName 73, ErrTaken 74, ErrOnly 75, ErrState 80, ErrApply 81, ErrQuote 90, ErrWords 91, ErrFormat 100, ErrDeep 101, ErrTarget 110, ErrMany 111, ErrNowhere 112, ErrVerb 120, ErrChoice 121, ErrFlag 122, ErrNeeds 123, ErrCount 124, ErrValue 125, ErrSpare 140, ErrClosed 141, ErrClient 160, ErrScript 180, ErrPicture 200, ErrKey 210, ErrTable 220, ErrOption 230, ErrScope 231, ErrBuffer 240, ErrMode 250"

// textsByNumber has the chapter's texts by the errors' numbers, as they are written.
func textsByNumber() map[string]string {
	numbers := map[string]string{}
	for _, item := range strings.Split(errnos, ", ") {
		name, number, _ := strings.Cut(item, " ")
		numbers[name] = number
	}
	found := map[string]string{}
	for _, item := range strings.Split(texts, ", ") {
		name, text, _ := strings.Cut(item, " ")
		found[numbers[name]] = strings.Trim(text, "`")
	}
	return found
}

func message(t *testing.T, e api.Errno, want string) {
	t.Helper()
	for _, about := range []string{"x", " ", "a: b", ":", "%9", "\x00\n\xff", strings.Repeat("long", 5000)} {
		if got := Message(e, about); got != want+": "+about {
			t.Errorf("Message(%d, %q) = %q; want %q and what it is about", e, about, got, want)
		}
	}
	if got := Message(e, ""); got != want {
		t.Errorf("Message(%d, nothing) = %q; want %q", e, got, want)
	}
}

func TestE3EveryError(t *testing.T) {
	known := textsByNumber()
	if len(known) != 31 {
		t.Fatalf("%d errors are known", len(known))
	}
	seen := 0
	for e := range 1000 {
		number := decimal(e)
		want := "error " + number
		if text, ok := known[number]; ok {
			want = text
			seen++
		}
		message(t, api.Errno(e), want)
	}
	if seen != len(known) {
		t.Errorf("only %d of %d texts were seen", seen, len(known))
	}
}

func TestE3NumbersAtTheEdges(t *testing.T) {
	for e, want := range map[api.Errno]string{
		0: "error 0", 10: "error 10", 43: "error 43", 251: "error 251", 99999: "error 99999",
		api.MaxNumber - 1: "error 4611686018427387903", api.MaxNumber: "error 4611686018427387904", api.MaxNumber + 1: "error",
		math.MaxInt: "error", -1: "error", -2: "error", -74: "error", -api.MaxNumber: "error", math.MinInt: "error",
	} {
		message(t, e, want)
	}
}
