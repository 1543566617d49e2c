package binds

import (
	"math"
	"strings"
	"testing"

	"mullion/api"
	"mullion/keys"
)

func oneByte(b int) string { return string([]byte{byte(b)}) }

func TestBI2Tables(t *testing.T) {
	p := begun(t)
	for _, table := range []string{"root", "prefix", "copy-mode", "x", "0", "a-b", "a+b=c", "50%", "user@host", "#", "~", `\`, `"q"`, "A", "_", "`", "}", "|", strings.Repeat("x", 32)} {
		p.bind(api.Binding{Table: table, Key: char('k'), Line: "in " + table}, api.OK).find(table, char('k'))
	}
	p.look()
	for _, table := range []string{"", " ", "a b", " a", "a ", "copy mode", "a.b", "a:b", ".", ":", "$1", "@1", "%1", "=a", "+a", "-a", "!a", "^a", "{a", "a\n", "\x00", "a\tb", "a\x7f", "caf\xc3\xa9", "\xff", strings.Repeat("x", 33), strings.Repeat("x", 1<<16)} {
		p.bind(api.Binding{Table: table, Key: char('k'), Line: "x"}, api.ErrName).find(table, char('k'))
	}
	p.look()
}

func TestBI2TablesEachByte(t *testing.T) {
	for b := range 256 {
		p := bare(t)
		for _, table := range []string{oneByte(b), oneByte(b) + "x", "x" + oneByte(b) + "x", "x" + oneByte(b)} {
			want := api.ErrName
			if tableForm.MatchString(table) {
				want = api.OK
			}
			p.bind(api.Binding{Table: table, Key: char('k'), Line: "x"}, want)
		}
		p.look()
	}
}

func TestBI2TablesLengths(t *testing.T) {
	p := begun(t)
	for n := range 40 {
		want := api.OK
		if n == 0 || n > 32 {
			want = api.ErrName
		}
		p.bind(api.Binding{Table: strings.Repeat("t", n), Key: char('k'), Line: "x"}, want)
	}
	p.look()
}

// wrongKeys are just beside those that are.
var wrongKeys = []api.Key{
	{}, {Code: -1}, {Code: 1}, {Code: 8}, {Code: 10}, {Code: 26}, {Code: 28}, {Code: 31}, {Code: 128}, {Code: 159},
	{Code: 55296}, {Code: 57343}, {Code: 1114112}, {Code: 1 << 24}, {Code: 1<<24 + 24}, {Code: 1<<32 + 97},
	{Code: -97}, {Code: math.MinInt}, {Code: math.MaxInt}, {Code: 'a', Mods: 1}, {Code: 'a', Mods: 8}, {Code: 'a', Mods: -1},
	{Code: 'a', Mods: 5}, {Code: 'a', Mods: math.MaxInt}, {Code: 'a', Mods: math.MinInt}, {Code: 'i', Mods: 4}, {Code: 'm', Mods: 4},
	{Code: 'A', Mods: 4}, {Code: '[', Mods: 4}, {Code: 233, Mods: 4}, {Code: 32, Mods: 1}, {Code: 13, Mods: 4}, {Code: 27, Mods: 1},
	{Code: api.KeyUp, Mods: 8}, {Code: api.KeyUp, Mods: -1}, {Code: api.KeyBackTab, Mods: 1}, {Code: api.KeyBackTab, Mods: 2},
}

// rightKeys are at the bounds.
var rightKeys = []api.Key{
	{Code: 33}, {Code: 126}, {Code: 160}, {Code: 55295}, {Code: 57344}, {Code: 1114111}, {Code: 1114111, Mods: 2}, {Code: 32}, {Code: 32, Mods: 6},
	{Code: 'a', Mods: 4}, {Code: 'a', Mods: 6}, {Code: 'z', Mods: 4}, {Code: '_', Mods: 4}, {Code: 13}, {Code: 9}, {Code: 27}, {Code: 127, Mods: 2},
	{Code: api.KeyUp}, {Code: api.KeyUp, Mods: 7}, {Code: api.KeyF12}, {Code: api.KeyF12, Mods: 7}, {Code: api.KeyBackTab},
}

func TestBI2Keys(t *testing.T) {
	p := begun(t)
	for _, k := range rightKeys {
		p.bind(api.Binding{Table: "t", Key: k, Line: "x"}, api.OK).find("t", k)
	}
	for _, k := range wrongKeys {
		for _, table := range []string{"t", "root", "prefix"} {
			p.bind(api.Binding{Table: table, Key: k, Line: "x"}, api.ErrKey).find(table, k)
		}
	}
	p.look()
}

func TestBI2KeysEachCode(t *testing.T) {
	p := bare(t)
	try := func(k api.Key) {
		if !keys.Valid(k) {
			p.bind(api.Binding{Table: "t", Key: k, Line: "x"}, api.ErrKey)
			return
		}
		p.bind(api.Binding{Table: "t", Key: k, Line: "x"}, api.OK).find("t", k).unbind("t", k, api.OK).find("t", k)
	}
	for mods := -2; mods <= 9; mods++ {
		for code := -3; code < 300; code++ {
			try(api.Key{Code: code, Mods: mods})
		}
		for code := 1<<24 - 3; code < 1<<24+40; code++ {
			try(api.Key{Code: code, Mods: mods})
		}
	}
	p.look()
}

func TestBI2Lines(t *testing.T) {
	p := begun(t)
	for _, line := range []string{"", "x", " ", "a\nb\x00\xff", strings.Repeat("x", 8191), strings.Repeat("y", 8192), strings.Repeat("\n", 8192), "not a command ;;; \"", strings.Repeat("\u00e9", 4096)} {
		for _, repeat := range []bool{false, true} {
			p.bind(api.Binding{Table: "t", Key: char('k'), Line: line, Repeat: repeat}, api.OK).find("t", char('k'))
		}
	}
	for _, line := range []string{strings.Repeat("x", 8193), strings.Repeat("\u00e9", 4096) + "x", strings.Repeat("x", 1<<20)} {
		p.bind(api.Binding{Table: "t", Key: char('k'), Line: line}, api.ErrLong)
		p.bind(api.Binding{Table: "t", Key: char('n'), Line: line, Repeat: true}, api.ErrLong).find("t", char('n'))
	}
	p.look()
}

func TestBI2Full(t *testing.T) {
	p := full(t)
	if n := len(p.book.all); n != api.MaxBindings {
		t.Fatalf("%d bindings", n)
	}
	for _, table := range []string{"filler", "prefix", "root", "new"} {
		p.bind(api.Binding{Table: table, Key: char('K'), Line: "x"}, api.ErrFull).find(table, char('K'))
	}
	p.look()
	p.unbind("filler", char(1000), api.OK)
	p.bind(api.Binding{Table: "new", Key: char('K'), Line: "x"}, api.OK)
	p.bind(api.Binding{Table: "filler", Key: char(1000), Line: "x"}, api.ErrFull).look()
}

// The limit is of all tables together, and not of each.
func TestBI2FullOfOneAndOfMany(t *testing.T) {
	for _, tables := range [][]string{{"one"}, {"one", "two"}, {"root", "prefix", "copy-mode", "d", "e", "f", "g"}} {
		p := bare(t)
		for i := range 200 {
			p.bind(api.Binding{Table: tables[i%len(tables)], Key: char(1000 + i), Line: "x"}, api.OK)
		}
		for _, table := range tables {
			p.bind(api.Binding{Table: table, Key: char(5000), Line: "x"}, api.ErrFull)
		}
		p.look()
	}
}

// A binding takes the place of another, in each of its parts, where there is room and where there is none.
func TestBI2TakesThePlace(t *testing.T) {
	for _, p := range []*pair{begun(t), full(t)} {
		count := len(p.book.all)
		for _, b := range []api.Binding{
			{Table: "prefix", Key: char('c'), Line: "another"},
			{Table: "prefix", Key: char('c'), Line: "another", Repeat: true},
			{Table: "prefix", Key: char('c'), Line: "", Repeat: true},
			{Table: "prefix", Key: char('c'), Line: "", Repeat: false},
			{Table: "prefix", Key: char(api.KeyUp), Line: "select-pane -U"},
			{Table: "copy-mode", Key: char('q'), Line: strings.Repeat("q", 8192), Repeat: true},
			{Table: "copy-mode", Key: char('q'), Line: "new-window"},
		} {
			p.bind(b, api.OK).find(b.Table, b.Key).look()
		}
		if n := len(p.tables.List("prefix")) + len(p.tables.List("copy-mode")) + len(p.tables.List("filler")); n != count {
			t.Errorf("%d bindings, and not %d", n, count)
		}
	}
}

// What differs in the table, in Code or in Mods alone is another binding.
func TestBI2ThatOfItsTableAndKey(t *testing.T) {
	p := bare(t)
	for _, table := range []string{"t", "T", "tt", "root", "prefix"} {
		for _, k := range []api.Key{char('a'), char('A'), {Code: 'a', Mods: 2}, {Code: 'a', Mods: 4}, {Code: 'a', Mods: 6}, char(api.KeyUp), {Code: api.KeyUp, Mods: 1}} {
			p.bind(api.Binding{Table: table, Key: k, Line: table + " " + keys.Name(k)}, api.OK)
		}
	}
	if p.look(); len(p.book.all) != 35 {
		t.Errorf("%d bindings, and not 35", len(p.book.all))
	}
}

// Each set of faults: the one that the chapter names first is answered, and nothing has changed.
func TestBI2WhichRefusalComesFirst(t *testing.T) {
	order := []api.Errno{api.ErrName, api.ErrKey, api.ErrLong, api.ErrFull}
	for _, held := range []bool{false, true} {
		for faults := range 16 {
			b := api.Binding{Table: "prefix", Key: char('K'), Line: "x", Repeat: true}
			if held {
				b.Key = char('c')
			}
			if faults&1 != 0 {
				b.Table = "a b"
			}
			if faults&2 != 0 {
				b.Key = api.Key{Code: 'K', Mods: 1}
			}
			if faults&4 != 0 {
				b.Line = strings.Repeat("x", 8193)
			}
			p := begun(t)
			if faults&8 != 0 {
				p = full(t)
			}
			want := api.OK
			for i, err := range order {
				if faults&(1<<i) != 0 {
					want = err
					break
				}
			}
			if want == api.ErrFull && held {
				want = api.OK
			}
			p.bind(b, want).look()
		}
	}
}
