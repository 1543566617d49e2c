package verb

import (
	"strings"

	"mullion/api"
)

// row is what the table says of one command: alone has the letters of the
// flags that stand alone, valued those of the flags that take a value, both
// rising; least and most are how many words it must and may have.
type row struct {
	name, alias   string
	alone, valued string
	least, most   int
}

// table has each command at its number. The row of VerbNone stays empty: it
// is no command, and no word names it.
var table [api.VerbUnlinkWindow + 1]row

func init() {
	table = [api.VerbUnlinkWindow + 1]row{
		api.VerbBreakPane:      {"break-pane", "breakp", "Pd", "nst", 0, 0},
		api.VerbCapturePane:    {"capture-pane", "capturep", "p", "St", 0, 0},
		api.VerbDetachClient:   {"detach-client", "detach", "", "", 0, 0},
		api.VerbDisplayMessage: {"display-message", "display", "p", "t", 0, 1},
		api.VerbHasSession:     {"has-session", "has", "", "t", 0, 0},
		api.VerbJoinPane:       {"join-pane", "joinp", "bdhv", "lst", 0, 0},
		api.VerbKillPane:       {"kill-pane", "killp", "a", "t", 0, 0},
		api.VerbKillServer:     {"kill-server", "", "", "", 0, 0},
		api.VerbKillSession:    {"kill-session", "", "a", "t", 0, 0},
		api.VerbKillWindow:     {"kill-window", "killw", "a", "t", 0, 0},
		api.VerbLinkWindow:     {"link-window", "linkw", "d", "st", 0, 0},
		api.VerbListCommands:   {"list-commands", "lscm", "", "", 0, 0},
		api.VerbListPanes:      {"list-panes", "lsp", "as", "Ft", 0, 0},
		api.VerbListSessions:   {"list-sessions", "ls", "", "F", 0, 0},
		api.VerbListWindows:    {"list-windows", "lsw", "a", "Ft", 0, 0},
		api.VerbMoveWindow:     {"move-window", "movew", "d", "st", 0, 0},
		api.VerbNewSession:     {"new-session", "new", "Pd", "nsxy", 0, 0},
		api.VerbNewWindow:      {"new-window", "neww", "Pd", "nt", 0, 0},
		api.VerbRefreshClient:  {"refresh-client", "refresh", "", "ABf", 0, 0},
		api.VerbRenameSession:  {"rename-session", "rename", "", "t", 1, 1},
		api.VerbRenameWindow:   {"rename-window", "renamew", "", "t", 1, 1},
		api.VerbResizePane:     {"resize-pane", "resizep", "DLRUZ", "txy", 0, 1},
		api.VerbResizeWindow:   {"resize-window", "resizew", "", "txy", 0, 0},
		api.VerbSelectLayout:   {"select-layout", "selectl", "", "t", 1, 2},
		api.VerbSelectPane:     {"select-pane", "selectp", "DLRUl", "t", 0, 0},
		api.VerbSelectWindow:   {"select-window", "selectw", "lnp", "t", 0, 0},
		api.VerbSendKeys:       {"send-keys", "send", "l", "t", 0, 63},
		api.VerbSplitWindow:    {"split-window", "splitw", "Pbdhv", "lt", 0, 0},
		api.VerbSwapPane:       {"swap-pane", "swapp", "", "st", 0, 0},
		api.VerbSwapWindow:     {"swap-window", "swapw", "", "st", 0, 0},
		api.VerbSwitchClient:   {"switch-client", "switchc", "np", "t", 0, 0},
		api.VerbUnlinkWindow:   {"unlink-window", "unlinkw", "k", "t", 0, 0},
	}
}

// rowOf gives the row of a command, the empty one if there is none of that
// number.
func rowOf(verb int) row {
	if verb < 0 || verb >= len(table) {
		return table[api.VerbNone]
	}
	return table[verb]
}

func (r row) isCommand() bool { return r.name != "" }

func (r row) standsAlone(letter string) bool { return has(r.alone, letter) }

func (r row) takesValue(letter string) bool { return has(r.valued, letter) }

// has asks for the length too: a text of no letter or of several ones may
// stand among the letters, but is none of them.
func has(letters, letter string) bool {
	return len(letter) == 1 && strings.Contains(letters, letter)
}

// mayHave tells whether the command takes that many words.
func (r row) mayHave(words int) bool { return r.least <= words && words <= r.most }
