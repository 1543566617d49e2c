package binds

import (
	"slices"
	"strings"
	"testing"

	"mullion/api"
	"mullion/keys"
)

func TestBI3Unbind(t *testing.T) {
	p := begun(t)
	p.unbind("prefix", char('c'), api.OK).find("prefix", char('c')).look()
	p.unbind("prefix", char('c'), api.ErrTable).look()
	p.unbind("copy-mode", char('c'), api.ErrTable)
	p.unbind("root", char('n'), api.ErrTable)
	p.unbind("prefix", api.Key{Code: 'n', Mods: 2}, api.ErrTable)
	p.unbind("prefix", char('N'), api.ErrTable)
	p.unbind("copy-mode", char('n'), api.OK).look()
	p.unbind("prefix", char('n'), api.OK).look()
	p.bind(api.Binding{Table: "prefix", Key: char('c'), Line: "again"}, api.OK).find("prefix", char('c')).look()
}

// senseless are tables that no binding is in.
var senseless = []string{"", " ", "a b", "prefix ", " prefix", "Prefix", "pre", "prefix\x00", "prefixes", "$1", ".", "\xff", "nowhere", strings.Repeat("x", 33), strings.Repeat("prefix", 10000)}

func TestBI3WhatIsNotThere(t *testing.T) {
	for _, p := range []*pair{begun(t), full(t), bare(t)} {
		for _, table := range senseless {
			for _, k := range append([]api.Key{char('c'), char('q'), char(api.KeyUp)}, wrongKeys...) {
				p.unbind(table, k, api.ErrTable).find(table, k)
			}
			if list := p.tables.List(table); len(list) > 0 {
				t.Errorf("List(%.40q) has %d bindings", table, len(list))
			}
		}
		for _, k := range wrongKeys {
			for _, table := range []string{"prefix", "copy-mode", "root", "filler"} {
				p.unbind(table, k, api.ErrTable).find(table, k)
			}
		}
		p.look()
	}
}

func TestBI3FindTellsAllParts(t *testing.T) {
	p := begun(t)
	for _, b := range []api.Binding{
		{Table: "root", Key: api.Key{Code: api.KeyF5, Mods: 5}, Repeat: true, Line: "lsk -T 'a b'\n\x00\xff"},
		{Table: "root", Key: char(1114111), Repeat: false, Line: ""},
		{Table: strings.Repeat("t", 32), Key: api.Key{Code: ' ', Mods: 6}, Repeat: true, Line: strings.Repeat("\xff", 8192)},
	} {
		p.bind(b, api.OK)
		if got, ok := p.tables.Find(b.Table, b.Key); got != b || !ok {
			t.Errorf("Find tells %s, %v, and not %s", short(got), ok, short(b))
		}
		if got := p.tables.List(b.Table); !slices.Contains(got, b) {
			t.Errorf("List tells %d bindings, and not %s among them", len(got), short(b))
		}
	}
	p.look()
}

// mixed is keys of which some have one Code and some the same Mods, by rising Code and then by rising Mods.
var mixed = []api.Key{
	{Code: 9}, {Code: 9, Mods: 2}, {Code: 13}, {Code: 27}, {Code: 32}, {Code: 32, Mods: 2}, {Code: 32, Mods: 4}, {Code: 32, Mods: 6},
	{Code: 'A'}, {Code: 'a'}, {Code: 'a', Mods: 2}, {Code: 'a', Mods: 4}, {Code: 'a', Mods: 6}, {Code: 'b', Mods: 4}, {Code: 'c'}, {Code: 127},
	{Code: 160}, {Code: 233, Mods: 2}, {Code: 65536}, {Code: 1114111}, {Code: 1114111, Mods: 2},
	{Code: api.KeyUp}, {Code: api.KeyUp, Mods: 1}, {Code: api.KeyUp, Mods: 2}, {Code: api.KeyUp, Mods: 3}, {Code: api.KeyUp, Mods: 4}, {Code: api.KeyUp, Mods: 5}, {Code: api.KeyUp, Mods: 6}, {Code: api.KeyUp, Mods: 7},
	{Code: api.KeyDown}, {Code: api.KeyDown, Mods: 7}, {Code: api.KeyF12, Mods: 1}, {Code: api.KeyBackTab},
}

func TestBI3ListRises(t *testing.T) {
	for seed := range 50 {
		p := bare(t)
		for _, i := range dealt(seed).Perm(len(mixed)) {
			p.bind(api.Binding{Table: "t", Key: mixed[i], Line: keys.Name(mixed[i]), Repeat: i%2 == 0}, api.OK)
			p.bind(api.Binding{Table: "u", Key: mixed[i], Line: "other"}, api.OK)
		}
		for _, k := range wrongKeys {
			p.bind(api.Binding{Table: "t", Key: k, Line: "x"}, api.ErrKey)
		}
		list := p.tables.List("t")
		if len(list) != len(mixed) {
			t.Fatalf("%d bindings, and not %d", len(list), len(mixed))
		}
		for i, k := range mixed {
			if want := (api.Binding{Table: "t", Key: k, Line: keys.Name(k), Repeat: i%2 == 0}); list[i] != want {
				t.Errorf("at %d stands %v, and not %v", i, list[i], want)
			}
		}
		p.look()
	}
}

// rising is names of tables, by their bytes.
var rising = []string{`"`, "#", "0", "10", "9", "A", "Z", "Za", "_", "a", "a-", "a1", "aZ", "ab", "b", "root", "~"}

func TestBI3NamesRise(t *testing.T) {
	for seed := range 50 {
		p := bare(t)
		for _, i := range dealt(seed).Perm(len(rising)) {
			p.bind(api.Binding{Table: rising[i], Key: char('k'), Line: "x"}, api.OK)
			p.bind(api.Binding{Table: rising[i], Key: char('l'), Line: "x"}, api.OK)
		}
		if got := p.tables.Names(); !slices.Equal(got, rising) {
			t.Errorf("Names() is %q", got)
		}
		p.look()
	}
}

// A table is told as long as it has a binding.
func TestBI3NamesOfTablesWithBindings(t *testing.T) {
	p := begun(t)
	wantNames := func(want ...string) {
		t.Helper()
		if got := p.look().tables.Names(); !slices.Equal(got, want) {
			t.Errorf("Names() is %q, and not %q", got, want)
		}
	}
	wantNames("copy-mode", "prefix")
	p.bind(api.Binding{Table: "root", Key: char('a')}, api.OK)
	p.bind(api.Binding{Table: "root", Key: char('b')}, api.OK)
	wantNames("copy-mode", "prefix", "root")
	p.unbind("root", char('a'), api.OK)
	wantNames("copy-mode", "prefix", "root")
	p.unbind("root", char('b'), api.OK)
	wantNames("copy-mode", "prefix")
	for _, b := range p.book.list("copy-mode") {
		p.unbind("copy-mode", b.Key, api.OK)
	}
	wantNames("prefix")
	for _, b := range p.book.list("prefix") {
		p.unbind("prefix", b.Key, api.OK)
	}
	wantNames()
	p.bind(api.Binding{Table: "copy mode", Key: char('a')}, api.ErrName)
	wantNames()
	p.bind(api.Binding{Table: "copy-mode", Key: char('a')}, api.OK)
	wantNames("copy-mode")
}
