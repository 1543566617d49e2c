package format

import "strings"

// A token is a part of a pattern: it stands for any bytes, or for one byte that
// its members stand for, or for one that they do not stand for.
type token struct {
	many    bool
	not     bool
	members string
}

// isOf goes through the tokens and the text side by side. Where they part, the
// last * takes one byte more; those ahead of it never need to, since the bytes
// between them were found as early as they can be. So a token meets a byte once
// for each beginning of the text at most.
func isOf(pattern []token, s string) bool {
	at, behindStar, begin := 0, 0, 0
	for i := 0; i < len(s); {
		switch {
		case at < len(pattern) && pattern[at].many:
			at++
			behindStar, begin = at, i
		case at < len(pattern) && pattern[at].standsFor(s[i]):
			at++
			i++
		case behindStar > 0:
			begin++
			at, i = behindStar, begin
		default:
			return false
		}
	}
	for at < len(pattern) && pattern[at].many {
		at++
	}
	return at == len(pattern)
}

func (t token) standsFor(b byte) bool { return has(t.members, b) != t.not }

// has tells whether the members of a set stand for a byte.
func has(members string, b byte) bool {
	for members != "" {
		from, to, length := members[0], members[0], 1
		if len(members) >= 3 && members[1] == '-' {
			to, length = members[2], 3
		}
		if from <= b && b <= to {
			return true
		}
		members = members[length:]
	}
	return false
}

func tokens(pattern string) []token {
	var all []token
	// Known ahead, so that no [ without an end is looked for its end.
	lastEnd := strings.LastIndexByte(pattern, ']')
	for at := 0; at < len(pattern); {
		t, length := nextToken(pattern[at:], lastEnd-at)
		all = append(all, t)
		at += length
	}
	return all
}

// nextToken answers the token with which a pattern begins whose last ] stands
// at that place, and how many bytes the token has.
func nextToken(pattern string, lastEnd int) (token, int) {
	switch pattern[0] {
	case '*':
		return token{many: true}, 1
	case '?':
		return token{not: true}, 1 // no member: any byte is none of them
	case '\\':
		if len(pattern) > 1 {
			return token{members: pattern[1:2]}, 2
		}
	case '[':
		if t, length := nextSet(pattern, lastEnd); length > 0 {
			return t, length
		}
	}
	return token{members: pattern[:1]}, 1
}

// nextSet answers the set that the [ of a pattern begins, and how many bytes it
// has: none, if it has no end.
func nextSet(pattern string, lastEnd int) (token, int) {
	begin := len("[")
	not := strings.HasPrefix(pattern[begin:], "!")
	if not {
		begin++
	}
	// The first member may be a ] itself.
	if lastEnd <= begin {
		return token{}, 0
	}
	end := begin + 1 + strings.IndexByte(pattern[begin+1:], ']')
	return token{not: not, members: pattern[begin:end]}, end + 1
}
