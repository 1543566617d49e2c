package copying

import "iter"

// behind yields the places behind one, in their order.
func (t text) behind(p place) iter.Seq[place] {
	return func(yield func(place) bool) {
		for q := p; q != t.end(t.last()); {
			if q == t.end(q.line) {
				q = t.begin(q.line + 1)
			} else {
				q.letters++
			}
			if !yield(q) {
				return
			}
		}
	}
}

// ahead yields the places ahead of one, the nearest first.
func (t text) ahead(p place) iter.Seq[place] {
	return func(yield func(place) bool) {
		for q := p; q != t.begin(0); {
			if q == t.begin(q.line) {
				q = t.end(q.line - 1)
			} else {
				q.letters--
			}
			if !yield(q) {
				return
			}
		}
	}
}

// those yields of some places the ones that fit.
func those(places iter.Seq[place], fits func(place) bool) iter.Seq[place] {
	return func(yield func(place) bool) {
		for p := range places {
			if fits(p) && !yield(p) {
				return
			}
		}
	}
}

// first is the first of some places.
func first(places iter.Seq[place]) (place, bool) {
	for p := range places {
		return p, true
	}
	return place{}, false
}

// firstOr is the first of some places, or, where there is none, another one.
func firstOr(places iter.Seq[place], other place) place {
	if p, ok := first(places); ok {
		return p
	}
	return other
}
