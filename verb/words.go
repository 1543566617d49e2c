package verb

import (
	"strings"

	"mullion/api"
)

// Words gives the words that say a command.
func Words(c api.Command) ([]string, api.Errno) {
	r := rowOf(c.Verb)
	if err := r.check(c); err != api.OK {
		return nil, err
	}
	words := []string{Name(c.Verb)}
	for _, flag := range c.Flags {
		words = append(words, "-"+flag.Letter)
		if r.takesValue(flag.Letter) {
			words = append(words, strings.Clone(flag.Value))
		}
	}
	if len(c.Words) > 0 && looksLikeFlag(c.Words[0]) {
		words = append(words, endOfFlags)
	}
	return append(words, clones(c.Words)...), api.OK
}

// check tells what is wrong with a command of this row.
func (r row) check(c api.Command) api.Errno {
	switch {
	case !r.isCommand():
		return api.ErrVerb
	case !r.hasFlags(c.Flags):
		return api.ErrFlag
	case r.hasNeedlessValue(c.Flags):
		return api.ErrValue
	case !r.mayHave(len(c.Words)):
		return api.ErrCount
	}
	return api.OK
}

// hasFlags tells whether all of these are flags of the command, and rising.
func (r row) hasFlags(flags []api.Flag) bool {
	ahead := ""
	for _, flag := range flags {
		known := r.standsAlone(flag.Letter) || r.takesValue(flag.Letter)
		if !known || flag.Letter <= ahead {
			return false
		}
		ahead = flag.Letter
	}
	return true
}

func (r row) hasNeedlessValue(flags []api.Flag) bool {
	for _, flag := range flags {
		if r.standsAlone(flag.Letter) && flag.Value != "" {
			return true
		}
	}
	return false
}

// Value gives the value of a command's flag, and whether the flag is there.
func Value(c api.Command, letter string) (string, bool) {
	for _, flag := range c.Flags {
		if flag.Letter == letter {
			return strings.Clone(flag.Value), true
		}
	}
	return "", false
}
