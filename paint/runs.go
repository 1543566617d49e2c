package paint

import (
	"iter"

	"mullion/api"
)

// runs yields where places of a row that differ begin, and the column behind
// the last of them. The two rows have the same length.
//
// No run begins at the right place of a letter of width 2, and none begins
// between the two places of an old one: where a right place differs from what
// the other row has there, the places to the left of both differ too.
func runs(a []api.Glyph, b []api.Glyph) iter.Seq2[int, int] {
	return func(yield func(int, int) bool) {
		for x := 0; x < len(a); x++ {
			begin := x
			for x < len(a) && a[x] != b[x] {
				x++
			}
			if begin < x && !yield(begin, x) {
				return
			}
		}
	}
}
