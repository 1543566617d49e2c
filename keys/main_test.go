package keys

import (
	"os"
	"runtime/debug"
	"testing"
)

// The regular expressions leave much behind them: seldom sweeping makes the tests a good deal faster.
func TestMain(m *testing.M) {
	debug.SetGCPercent(800)
	os.Exit(m.Run())
}
