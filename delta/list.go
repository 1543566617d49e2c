package delta

import "slices"

// walk goes through two lists that rise by a number, side by side, and hands
// over what is in the one alone (with nil beside it), in both, in the other
// alone.
func walk[T any](a, b []T, number func(T) int, meet func(old, now *T)) {
	i, j := 0, 0
	for i < len(a) || j < len(b) {
		switch {
		case j == len(b) || i < len(a) && number(a[i]) < number(b[j]):
			meet(&a[i], nil)
			i++
		case i == len(a) || number(b[j]) < number(a[i]):
			meet(nil, &b[j])
			j++
		default:
			meet(&a[i], &b[j])
			i, j = i+1, j+1
		}
	}
}

// rises tells whether the numbers rise, and stay within their bounds.
func rises[T any](list []T, number func(T) int, least, most int) bool {
	for _, x := range list {
		n := number(x)
		if n < least || n > most {
			return false
		}
		least = n + 1
	}
	return true
}

// placeOf is where the first one with this number stands; below 0, if there is none.
func placeOf[T any](list []T, number func(T) int, wanted int) int {
	return slices.IndexFunc(list, func(x T) bool { return number(x) == wanted })
}

// find gives the first one with this number, to be changed where it stands; nil, if there is none.
func find[T any](list []T, number func(T) int, wanted int) *T {
	if at := placeOf(list, number, wanted); at >= 0 {
		return &list[at]
	}
	return nil
}

// insert asks for no order in the list: the new one comes ahead of the first that is greater.
func insert[T any](list []T, number func(T) int, x T) []T {
	at := slices.IndexFunc(list, func(y T) bool { return number(y) > number(x) })
	if at < 0 {
		at = len(list)
	}
	return slices.Insert(list, at, x)
}

// remove takes out the first one with this number, which must be there.
func remove[T any](list []T, number func(T) int, wanted int) []T {
	at := placeOf(list, number, wanted)
	return slices.Delete(list, at, at+1)
}
