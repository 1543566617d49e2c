package exec

import (
	"math"
	"slices"
	"testing"

	"mullion/api"
	"mullion/verb"
)

func flags(pairs ...string) []api.Flag {
	var all []api.Flag
	for i := 0; i < len(pairs); i += 2 {
		all = append(all, api.Flag{Letter: pairs[i], Value: pairs[i+1]})
	}
	return all
}

// What verb.Words refuses, in each of its ways, fails with ErrVerb about nothing, ahead of all else.
func TestE2RefusedCommands(t *testing.T) {
	d := world(t)
	was := whole(d.st)
	commands := []api.Command{
		{}, {Verb: -1}, {Verb: 33}, {Verb: math.MaxInt}, {Verb: math.MinInt}, {Verb: api.VerbNone, Words: []string{"new"}},
		{Verb: api.VerbNewSession, Flags: flags("q", "")},
		{Verb: api.VerbNewSession, Flags: flags("", "")},
		{Verb: api.VerbNewSession, Flags: flags("Pd", "")},
		{Verb: api.VerbNewSession, Flags: flags("s", "x", "d", "")},
		{Verb: api.VerbNewSession, Flags: flags("d", "", "d", "")},
		{Verb: api.VerbNewSession, Flags: flags("s", "x", "s", "y")},
		{Verb: api.VerbNewSession, Flags: flags("d", "1")},
		{Verb: api.VerbNewSession, Words: []string{"x"}},
		{Verb: api.VerbRenameWindow}, {Verb: api.VerbRenameWindow, Words: []string{"a", "b"}},
		{Verb: api.VerbRenameSession, Flags: flags("t", "nothing")},
		{Verb: api.VerbSelectLayout}, {Verb: api.VerbSelectLayout, Words: []string{"tiled", "1", "2"}},
		{Verb: api.VerbDisplayMessage, Words: []string{"a", "b"}},
		{Verb: api.VerbResizePane, Words: []string{"1", "2"}},
		{Verb: api.VerbSendKeys, Words: slices.Repeat([]string{"x"}, 64)},
		{Verb: api.VerbKillServer, Flags: flags("a", "")},
		{Verb: api.VerbDetachClient, Words: []string{""}},
	}
	for _, c := range commands {
		if _, err := verb.Words(c); err == api.OK {
			t.Fatalf("%v is a command", c)
		}
		for _, here := range []int{1, 0, -1, 99} {
			if a := Do(d.st, here, c); told(a) != told(api.Answer{Here: here, Err: api.ErrVerb}) {
				t.Errorf("%v at %d answers %s", c, here, told(a))
			}
		}
	}
	if whole(d.st) != was {
		t.Error("the store has changed")
	}
	// What Words takes is done, also where Read reads it otherwise than it is spelt by hand.
	if a := Do(d.st, 1, api.Command{Verb: api.VerbSendKeys, Words: slices.Repeat([]string{"x"}, 63)}); a.Err != api.OK {
		t.Errorf("%s", told(a))
	}
	if a := Do(d.st, 1, api.Command{Verb: api.VerbRenameWindow, Words: []string{"-t"}}); a.Err != api.ErrName {
		t.Errorf("%s", told(a))
	}
}

// Every command is in the table, and does what its name says: none is another's.
func TestE2EveryCommandIsThere(t *testing.T) {
	for v := 1; v <= api.VerbUnlinkWindow; v++ {
		if deeds()[v] == nil {
			t.Errorf("%s is not there", verb.Name(v))
		}
	}
	if len(deeds()) != len(verb.List())+1 || len(rows()) != len(verb.List()) {
		t.Errorf("%d commands are done, %d are known to the tests", len(deeds())-1, len(rows()))
	}
}
