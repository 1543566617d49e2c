package copying

import (
	"testing"

	"mullion/api"
)

func chapters(t testing.TB) *pair { return begun(t, 20, 2, "one two", "", "  three_3 four") }

// The chapter's examples, one behind the other.
func TestExamples(t *testing.T) {
	p := chapters(t).at(2, 0, 1)
	p.do("cursor-up").at(1, 0, 1).do("cursor-up").at(0, 0, 0)
	p.do("end-of-line").at(0, 7, 0).do("cursor-right").at(1, 0, 0).do("cursor-down").at(2, 0, 1)

	p.do("history-top", "next-word").at(0, 4, 0).do("next-word").at(2, 2, 1).do("next-word-end").at(2, 9, 1)
	p.do("next-word").at(2, 10, 1).do("next-word").at(2, 14, 1).do("previous-word").at(2, 10, 1)

	p.do("history-top", "begin-selection", "next-word-end").selects("one")
	p.do("cursor-down", "cursor-down").at(2, 3, 1).selects("one two\n\n  t")
	p.do("rectangle-toggle").selects("one\n\n  t")

	p.do("history-bottom", "search-forward o").at(2, 11, 1).do("search-again").at(0, 0, 0).do("search-reverse").at(2, 11, 1)
	p.answers("search-forward xx", api.ErrTarget).at(2, 11, 1)

	p.do("history-bottom", "back-to-indentation").at(2, 2, 1).do("jump-forward f").at(2, 10, 1).do("select-word").selects("four")
	p.do("goto-line 99").at(2, 0, 1).answers("goto-line x", api.ErrValue).answers("goto-line", api.ErrNeeds)
	p.answers("select-word 3", api.ErrCount).answers("fly", api.ErrVerb).probe()
}
