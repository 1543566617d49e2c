package buffers

import (
	"testing"

	"mullion/api"
)

// The chapter's examples, one behind the other.
func TestExamples(t *testing.T) {
	p := begun(t)
	p.is("", "a", "buffer0").is("", "b", "buffer1").got("", "buffer1", "b")
	p.is("x", "c", "x").got("", "buffer1", "b").names("x", "buffer1", "buffer0")
	p.limit(1, api.OK).names("x", "buffer1").got("buffer0", "", "")
	p.rename("buffer1", "y", api.OK).got("", "x", "c").names("x", "y")
	p.probe()
	if got := Paste("a\nb", "\r", false); got != "a\rb" {
		t.Errorf("Paste is %q", got)
	}
}
