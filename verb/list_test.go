package verb

import (
	"math"
	"slices"
	"testing"

	"mullion/api"
)

func allNames() []string {
	return []string{
		"break-pane", "capture-pane", "detach-client", "display-message", "has-session", "join-pane", "kill-pane",
		"kill-server", "kill-session", "kill-window", "link-window", "list-commands", "list-panes", "list-sessions",
		"list-windows", "move-window", "new-session", "new-window", "refresh-client", "rename-session",
		"rename-window", "resize-pane", "resize-window", "select-layout", "select-pane", "select-window",
		"send-keys", "split-window", "swap-pane", "swap-window", "switch-client", "unlink-window",
	}
}

func noCommands() []int {
	return []int{0, -1, 33, 34, -28, 100, 28 + 256, 28 + 1<<32, api.MaxNumber, math.MinInt, math.MaxInt}
}

func TestP122Names(t *testing.T) {
	for i, want := range allNames() {
		if got := Name(i + 1); got != want {
			t.Errorf("Name(%d): %q, and not %q", i+1, got, want)
		}
	}
}

func TestP122NameOfNone(t *testing.T) {
	for _, verb := range noCommands() {
		if got := Name(verb); got != "" {
			t.Errorf("Name(%d): %q", verb, got)
		}
	}
}

func TestP122TheNumbersOfApi(t *testing.T) {
	for verb, want := range map[int]string{
		api.VerbNone: "", api.VerbBreakPane: "break-pane", api.VerbKillServer: "kill-server",
		api.VerbMoveWindow: "move-window", api.VerbSelectLayout: "select-layout",
		api.VerbSplitWindow: "split-window", api.VerbUnlinkWindow: "unlink-window",
	} {
		if got := Name(verb); got != want {
			t.Errorf("Name(%d): %q, and not %q", verb, got, want)
		}
	}
}

func TestP122List(t *testing.T) {
	if got := List(); !slices.Equal(got, allNames()) {
		t.Errorf("List: %q", got)
	}
}

func TestP123EveryLine(t *testing.T) {
	for i, want := range []string{
		"break-pane (breakp) [-Pd] [-n value] [-s value] [-t value]",
		"capture-pane (capturep) [-p] [-S value] [-t value]",
		"detach-client (detach)",
		"display-message (display) [-p] [-t value] [word]",
		"has-session (has) [-t value]",
		"join-pane (joinp) [-bdhv] [-l value] [-s value] [-t value]",
		"kill-pane (killp) [-a] [-t value]",
		"kill-server",
		"kill-session [-a] [-t value]",
		"kill-window (killw) [-a] [-t value]",
		"link-window (linkw) [-d] [-s value] [-t value]",
		"list-commands (lscm)",
		"list-panes (lsp) [-as] [-F value] [-t value]",
		"list-sessions (ls) [-F value]",
		"list-windows (lsw) [-a] [-F value] [-t value]",
		"move-window (movew) [-d] [-s value] [-t value]",
		"new-session (new) [-Pd] [-n value] [-s value] [-x value] [-y value]",
		"new-window (neww) [-Pd] [-n value] [-t value]",
		"refresh-client (refresh) [-A value] [-B value] [-f value]",
		"rename-session (rename) [-t value] word",
		"rename-window (renamew) [-t value] word",
		"resize-pane (resizep) [-DLRUZ] [-t value] [-x value] [-y value] [word]",
		"resize-window (resizew) [-t value] [-x value] [-y value]",
		"select-layout (selectl) [-t value] word [word]",
		"select-pane (selectp) [-DLRUl] [-t value]",
		"select-window (selectw) [-lnp] [-t value]",
		"send-keys (send) [-l] [-t value] [word ..]",
		"split-window (splitw) [-Pbdhv] [-l value] [-t value]",
		"swap-pane (swapp) [-s value] [-t value]",
		"swap-window (swapw) [-s value] [-t value]",
		"switch-client (switchc) [-np] [-t value]",
		"unlink-window (unlinkw) [-k] [-t value]",
	} {
		if got := Usage(i + 1); got != want {
			t.Errorf("Usage(%d): %q, and not %q", i+1, got, want)
		}
		if got := expectUsage(entries[i]); got != want {
			t.Errorf("the tests' own table says %q, and not %q", got, want)
		}
	}
}

func TestP123LineOfNone(t *testing.T) {
	for _, verb := range noCommands() {
		if got := Usage(verb); got != "" {
			t.Errorf("Usage(%d): %q", verb, got)
		}
	}
}

// No command of the table may have just two words more than it must: the
// rule is held to that all the same.
func TestP123WordsThatMayBe(t *testing.T) {
	for count, want := range map[int]string{0: "", 1: " [word]", 2: " [word ..]", 3: " [word ..]", 63: " [word ..]"} {
		if got := moreWords(count); got != want {
			t.Errorf("%d words that may be: %q, and not %q", count, got, want)
		}
	}
}

// Each letter of a line is a flag that Read takes, of the sort that the line
// tells, and no other byte is.
func TestP123FlagsOfTheLineAreThoseOfRead(t *testing.T) {
	for _, e := range entries {
		for b := range 256 {
			letter := string([]byte{byte(b)})
			alone, valued := slices.Contains(e.alone, letter), slices.Contains(e.valued, letter)
			_, about, err := Read([]string{e.name, "-" + letter, "v", "w"})
			switch {
			case letter == "-":
				continue
			case !alone && !valued && (err != api.ErrFlag || about != "-"+letter):
				t.Errorf("%s -%s: error %d about %q", e.name, letter, err, about)
			case (alone || valued) && err == api.ErrFlag:
				t.Errorf("%s -%s: error %d about %q", e.name, letter, err, about)
			}
			_, about, err = Read([]string{e.name, "-" + letter})
			if valued != (err == api.ErrNeeds) || valued && about != "-"+letter {
				t.Errorf("%s -%s, without a value: error %d about %q", e.name, letter, err, about)
			}
		}
	}
}
