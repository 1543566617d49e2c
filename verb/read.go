package verb

import (
	"slices"
	"strings"

	"mullion/api"
)

// endOfFlags is the word that stands between the flags and a first word that
// would be taken for one.
const endOfFlags = "--"

// Read gives the command that words say; with an error, what it is about.
func Read(words []string) (api.Command, string, api.Errno) {
	if len(words) == 0 {
		return api.Command{}, "", api.ErrArg
	}
	verb, err := Find(words[0])
	if err != api.OK {
		return api.Command{}, strings.Clone(words[0]), err
	}
	r := reader{row: rowOf(verb), rest: words[1:]}
	if about, err := r.readFlags(); err != api.OK {
		return api.Command{}, about, err
	}
	if !r.mayHave(len(r.rest)) {
		return api.Command{}, Name(verb), api.ErrCount
	}
	return api.Command{Verb: verb, Flags: r.flags, Words: clones(r.rest)}, "", api.OK
}

// reader goes through the words behind a command's name: rest are those that
// it has not taken yet, flags what the others said, rising by letter.
type reader struct {
	row
	flags []api.Flag
	rest  []string
}

// readFlags takes the words that are flags; with an error it tells what that
// is about, as those below it do.
func (r *reader) readFlags() (string, api.Errno) {
	for len(r.rest) > 0 && looksLikeFlag(r.rest[0]) {
		word := r.next()
		if word == endOfFlags {
			break
		}
		if about, err := r.readLetters(word[1:]); err != api.OK {
			return about, err
		}
	}
	return "", api.OK
}

// looksLikeFlag tells whether a word that stands where flags may stand is
// taken for one.
func looksLikeFlag(word string) bool {
	return len(word) >= 2 && word[0] == '-'
}

// next takes a word; there must be one.
func (r *reader) next() string {
	word := r.rest[0]
	r.rest = r.rest[1:]
	return word
}

func (r *reader) readLetters(letters string) (string, api.Errno) {
	for i := range len(letters) {
		letter := letters[i : i+1]
		switch {
		case r.standsAlone(letter):
			r.keep(letter, "")
		case r.takesValue(letter):
			return r.readValue(letter, letters[i+1:])
		default:
			return "-" + letter, api.ErrFlag
		}
	}
	return "", api.OK
}

// readValue takes the value of a flag; behind is what its own word still has.
func (r *reader) readValue(letter, behind string) (string, api.Errno) {
	if behind == "" && len(r.rest) == 0 {
		return "-" + letter, api.ErrNeeds
	}
	if behind == "" {
		behind = r.next()
	}
	r.keep(letter, behind)
	return "", api.OK
}

// keep puts a flag at its place; of one that stands twice the last value is
// the one that holds.
func (r *reader) keep(letter, value string) {
	flag := api.Flag{Letter: strings.Clone(letter), Value: strings.Clone(value)}
	at, found := slices.BinarySearchFunc(r.flags, letter, byLetter)
	if found {
		r.flags[at] = flag
		return
	}
	r.flags = slices.Insert(r.flags, at, flag)
}

func byLetter(flag api.Flag, letter string) int {
	return strings.Compare(flag.Letter, letter)
}

// clones gives words that share nothing with those handed in.
func clones(words []string) []string {
	var out []string
	for _, word := range words {
		out = append(out, strings.Clone(word))
	}
	return out
}
