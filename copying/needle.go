package copying

import (
	"iter"
	"slices"
)

// needle is letters that are sought in lines. The borders keep a search from
// looking at a line's letters again and again, however alike they are.
type needle struct {
	letters []rune
	borders []int // of each beginning of the letters: how many of them, but not all, both begin it and end it
}

func newNeedle(letters []rune) needle {
	n := needle{letters, make([]int, len(letters))}
	for i := 1; i < len(letters); i++ {
		n.borders[i] = n.have(n.borders[i-1], letters[i])
	}
	return n
}

// have tells how many of the needle's letters a line's beginning ends with, if
// it did with so many ahead of its last letter.
func (n needle) have(had int, last rune) int {
	for had == len(n.letters) || n.letters[had] != last {
		if had == 0 {
			return 0
		}
		had = n.borders[had-1]
	}
	return had + 1
}

// in yields the numbers of letters ahead of which the needle stands in a line.
func (n needle) in(line []rune) iter.Seq[int] {
	return func(yield func(int) bool) {
		had := 0
		for i, letter := range line {
			had = n.have(had, letter)
			if had == len(n.letters) && !yield(i+1-had) {
				return
			}
		}
	}
}

// standBehind yields the places behind p at which a needle stands, in their
// order. The line of p may be one ahead of the text.
func (t text) standBehind(p place, n needle) iter.Seq[place] {
	return func(yield func(place) bool) {
		for line := max(p.line, 0); line <= t.last(); line++ {
			for letters := range n.in(t[line]) {
				q := place{line, letters}
				if p.isAheadOf(q) && !yield(q) {
					return
				}
			}
		}
	}
}

// standAhead yields those ahead of p, the nearest first. The line of p may be
// one behind the text.
func (t text) standAhead(p place, n needle) iter.Seq[place] {
	return func(yield func(place) bool) {
		for line := min(p.line, t.last()); line >= 0; line-- {
			for _, letters := range slices.Backward(slices.Collect(n.in(t[line]))) {
				q := place{line, letters}
				if q.isAheadOf(p) && !yield(q) {
					return
				}
			}
		}
	}
}
