package vt

import "testing"

// Each control sequence with each count, behind what may be there.
func TestV2OrdersBehindEverything(t *testing.T) {
	stories(t, sizes[:1], setups(), orders(lasts, "", "0", "2", "9999", "3;1"))
	stories(t, sizes[:1], shortSetups(), orders(lasts, counts...))
	stories(t, sizes[1:], shortSetups(), orders(lasts, "", "0", "2", "3;4", "9999"))
	stories(t, sizes[:1], shortSetups(), orders(noLasts, "", "2;3"))
}

// Each mode, each escape, each control and letters of all kinds.
func TestV2ModesBehindEverything(t *testing.T) {
	stories(t, sizes[:1], setups(), markedOrders())
	stories(t, sizes[1:], shortSetups(), markedOrders())
}

func TestV2EscapesBehindEverything(t *testing.T) {
	stories(t, sizes[:2], shortSetups(), escapes())
}

func TestV2LettersBehindEverything(t *testing.T) { stories(t, sizes, setups(), written()) }

// Each size, from each other one.
func TestV5ResizeBehindEverything(t *testing.T) { stories(t, sizes, setups(), sized()) }
