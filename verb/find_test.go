package verb

import (
	"strings"
	"testing"

	"mullion/api"
)

func finds(t *testing.T, word string, verb int) {
	t.Helper()
	if got, err := Find(word); got != verb || err != api.OK {
		t.Errorf("Find(%q): %d, error %d, and not %d", word, got, err, verb)
	}
}

func findsNone(t *testing.T, word string, want api.Errno) {
	t.Helper()
	if got, err := Find(word); got != api.VerbNone || err != want {
		t.Errorf("Find(%q): %d, error %d, and not error %d", word, got, err, want)
	}
}

func TestP121EveryName(t *testing.T) {
	for i, name := range allNames() {
		finds(t, name, i+1)
	}
}

func TestP121EveryAlias(t *testing.T) {
	for alias, verb := range map[string]int{
		"breakp": 1, "capturep": 2, "detach": 3, "display": 4, "has": 5, "joinp": 6, "killp": 7, "killw": 10,
		"linkw": 11, "lscm": 12, "lsp": 13, "ls": 14, "lsw": 15, "movew": 16, "new": 17, "neww": 18,
		"refresh": 19, "rename": 20, "renamew": 21, "resizep": 22, "resizew": 23, "selectl": 24, "selectp": 25,
		"selectw": 26, "send": 27, "splitw": 28, "swapp": 29, "swapw": 30, "switchc": 31, "unlinkw": 32,
	} {
		finds(t, alias, verb)
	}
}

func TestP121BeginningOfOneName(t *testing.T) {
	for word, verb := range map[string]int{
		"b": 1, "c": 2, "break-pan": 1, "de": 3, "det": 3, "di": 4, "disp": 4, "h": 5, "j": 6, "kill-p": 7,
		"kill-ser": 8, "kill-ses": 9, "kill-w": 10, "lin": 11, "link-": 11, "list-c": 12, "list-p": 13,
		"list-s": 14, "list-w": 15, "m": 16, "new-s": 17, "new-w": 18, "ref": 19, "rename-s": 20, "rename-w": 21,
		"resize-p": 22, "resize-w": 23, "select-l": 24, "select-p": 25, "select-w": 26, "sen": 27, "send-": 27,
		"sp": 28, "split": 28, "swap-p": 29, "swap-w": 30, "swi": 31, "u": 32,
	} {
		finds(t, word, verb)
	}
}

func TestP121BeginningOfSeveralNames(t *testing.T) {
	for _, word := range []string{
		"d", "k", "kill", "kill-", "kill-s", "kill-se", "l", "li", "list", "list-", "n", "ne", "new-", "r", "re",
		"ren", "rena", "rename-", "res", "resize", "resize-", "s", "se", "sel", "select", "select-", "sw", "swap", "swap-",
	} {
		findsNone(t, word, api.ErrChoice)
	}
}

// An alias is whole, or it is none.
func TestP121BeginningOfAnAliasAlone(t *testing.T) {
	for _, word := range []string{"lsc", "lscmm", "lspp", "lss", "splitwi", "breakpa", "newww", "renamewi", "hass", "killpp", "swappa"} {
		findsNone(t, word, api.ErrVerb)
	}
}

// An alias goes ahead of the names that begin with it.
func TestP121AliasThatBeginsNames(t *testing.T) {
	finds(t, "new", api.VerbNewSession)
	finds(t, "rename", api.VerbRenameSession)
	finds(t, "send", api.VerbSendKeys)
	finds(t, "has", api.VerbHasSession)
	finds(t, "detach", api.VerbDetachClient)
	finds(t, "display", api.VerbDisplayMessage)
	finds(t, "refresh", api.VerbRefreshClient)
}

func TestP121BeginningOfNone(t *testing.T) {
	for _, word := range []string{
		"", "-", " ", "a", "z", "Split-window", "SPLITW", "split-window ", " split-window", "split window",
		"split-windows", "plit-window", "window", "pane", "kill_pane", "\x00", "\xff", "ls\n", "ls\x00", "(splitw)",
		"8", "kill-server-", strings.Repeat("s", 1<<16), strings.Repeat("split-window", 1<<12),
	} {
		findsNone(t, word, api.ErrVerb)
	}
}

// Every beginning of every name and alias, with each byte there is behind it.
func TestP121EveryBeginning(t *testing.T) {
	for _, e := range entries {
		for _, whole := range []string{e.name, e.alias} {
			for n := range len(whole) + 1 {
				holdFind(t, whole[:n])
				for b := range 256 {
					holdFind(t, whole[:n]+string([]byte{byte(b)}))
				}
			}
		}
	}
}

func TestP121AllShortWords(t *testing.T) {
	const from = "abcdefghijklmnopqrstuvwxyz-"
	for _, a := range from {
		for _, b := range from {
			holdFind(t, string(a)+string(b))
			for _, c := range from {
				holdFind(t, string(a)+string(b)+string(c))
			}
		}
	}
}

func holdFind(t *testing.T, word string) {
	t.Helper()
	verb, err := Find(word)
	if want, wantErr := expectFind(word); verb != want || err != wantErr {
		t.Fatalf("Find(%q): %d, error %d, and not %d, error %d", word, verb, err, want, wantErr)
	}
}
