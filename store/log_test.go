package store

import (
	"math"
	"testing"

	"mullion/api"
	"mullion/tail"
)

func write(pane int, text string) call { return call{name: "Write", a: pane, text: text} }

func typeInto(pane int, text string) call { return call{name: "Type", a: pane, text: text} }

func TestS4Write(t *testing.T) {
	d := small(t).all(newSession("a"), splitRow(1))
	begin := 0
	for _, text := range []string{"abc", "", "d", "", "0123456789", "a\nb\n", "longer than what is kept", "\x00\xff"} {
		if a := d.must(write(1, text)); a.n != begin {
			t.Fatalf("Write(1, %q) = %d; want %d", text, a.n, begin)
		}
		begin += len(text)
		if from, to, ok := d.s.Extent(1); from != max(0, begin-10) || to != begin || !ok {
			t.Fatalf("behind %q the extent is %d, %d, %v; want ..%d", text, from, to, ok, begin)
		}
		// Neither the other pane nor what was typed has had a byte of it.
		if from, to, ok := d.s.Extent(2); from != 0 || to != 0 || !ok {
			t.Fatalf("the other pane has the extent %d, %d, %v", from, to, ok)
		}
		if keys, ok := d.s.Typed(1); keys != "" || !ok {
			t.Fatalf("typed is %q, %v", keys, ok)
		}
	}
}

func TestS4Type(t *testing.T) {
	d := small(t).all(newSession("a"), splitRow(1))
	all := ""
	for _, text := range []string{"abc", "", "d", "0123456789", "a\nb\n", "longer than what is kept"} {
		d.must(typeInto(1, text))
		all += text
		if keys, ok := d.s.Typed(1); keys != all[max(0, len(all)-10):] || !ok {
			t.Fatalf("behind %q typed is %q, %v", text, keys, ok)
		}
		if keys, ok := d.s.Typed(2); keys != "" || !ok {
			t.Fatalf("into the other pane was typed %q, %v", keys, ok)
		}
		if from, to, ok := d.s.Extent(1); from != 0 || to != 0 || !ok {
			t.Fatalf("what is typed is no output: the extent is %d, %d, %v", from, to, ok)
		}
	}
}

func TestS4ReadAndLines(t *testing.T) {
	d := small(t).all(newSession("a"), newWindow(1, -1), write(1, "one\n"), write(2, "lost and\ntwo\nthree"))
	for _, x := range []struct {
		pane, from, most int
		text             string
		next             int
		err              api.Errno
	}{
		{1, 0, 100, "one\n", 4, api.OK},
		{1, 1, 2, "ne", 3, api.OK},
		{1, 1, 0, "", 1, api.OK},
		{1, 4, 5, "", 4, api.OK},
		{1, 5, 5, "", 0, api.ErrAhead},
		{1, -1, 5, "", 0, api.ErrArg},
		{1, 0, -1, "", 0, api.ErrArg},
		{1, 5, -1, "", 0, api.ErrArg},
		{1, math.MaxInt, math.MaxInt, "", 0, api.ErrAhead},
		{1, math.MinInt, math.MinInt, "", 0, api.ErrArg},
		{1, 0, math.MaxInt, "one\n", 4, api.OK},
		{2, 0, 5, "", 0, api.ErrGone},
		{2, 7, 5, "", 0, api.ErrGone},
		{2, 8, 5, "\ntwo\n", 13, api.OK},
		{2, 8, 99, "\ntwo\nthree", 18, api.OK},
		{2, 18, 99, "", 18, api.OK},
		{3, 0, 1, "", 0, api.ErrNoPane},
		{3, -1, -1, "", 0, api.ErrNoPane},
		{0, 0, 1, "", 0, api.ErrNoPane},
	} {
		d.do(call{name: "Read", a: x.pane, b: x.from, c: x.most})
		if text, next, err := d.s.Read(x.pane, x.from, x.most); text != x.text || next != x.next || err != x.err {
			t.Errorf("Read(%d, %d, %d) = %q, %d, %d; want %q, %d, %d", x.pane, x.from, x.most, text, next, err, x.text, x.next, x.err)
		}
	}
	for _, x := range []struct {
		pane, n int
		text    string
		err     api.Errno
	}{
		{1, 1, "one\n", api.OK}, {1, 5, "one\n", api.OK}, {1, 0, "", api.OK}, {1, math.MinInt, "", api.OK},
		{2, 1, "three", api.OK}, {2, 2, "two\nthree", api.OK}, {2, 3, "\ntwo\nthree", api.OK}, {2, math.MaxInt, "\ntwo\nthree", api.OK},
		{3, 1, "", api.ErrNoPane}, {0, 1, "", api.ErrNoPane}, {-1, 0, "", api.ErrNoPane},
	} {
		d.do(call{name: "Lines", a: x.pane, b: x.n})
		if text, err := d.s.Lines(x.pane, x.n); text != x.text || err != x.err {
			t.Errorf("Lines(%d, %d) = %q, %d; want %q, %d", x.pane, x.n, text, err, x.text, x.err)
		}
	}
}

// A cell that is no pane has the number 0: no pane is meant by that.
func TestS4NoSuchPane(t *testing.T) {
	d := small(t).all(newSession("a"), splitRow(1), splitCol(1), write(1, "x"), call{name: "ClosePane", a: 2})
	for _, pane := range []int{0, -1, 2, 4, 100, math.MinInt, math.MaxInt, api.MaxNumber} {
		for _, text := range []string{"", "x"} {
			d.fails(write(pane, text), api.ErrNoPane)
			d.fails(typeInto(pane, text), api.ErrNoPane)
		}
		d.fails(call{name: "Read", a: pane, c: 1}, api.ErrNoPane)
		d.fails(call{name: "Lines", a: pane, b: 1}, api.ErrNoPane)
		if from, to, ok := d.s.Extent(pane); from != 0 || to != 0 || ok {
			t.Errorf("Extent(%d) = %d, %d, %v", pane, from, to, ok)
		}
		if keys, ok := d.s.Typed(pane); keys != "" || ok {
			t.Errorf("Typed(%d) = %q, %v", pane, keys, ok)
		}
	}
}

// Nobody writes 2^62 bytes: logs that stand ahead of that bound are laid in by hand.
func TestS4AtTheBoundOfALog(t *testing.T) {
	d := small(t)
	d.must(newSession("a"))
	var err api.Errno
	p := d.s.panes.find(1)
	if p.written, err = tail.Load(10, api.MaxNumber-4, "ab"); err != api.OK {
		t.Fatal(err)
	}
	if p.typed, err = tail.Load(10, api.MaxNumber-7, "keys"); err != api.OK {
		t.Fatal(err)
	}
	for _, s := range []*Store{d.s.Clone(), d.s} {
		was := whole(s)
		if at, err := s.Write(1, "123"); at != 0 || err != api.ErrLong {
			t.Errorf("Write beyond the bound: %d, %d", at, err)
		}
		if err := s.Type(1, "1234"); err != api.ErrLong {
			t.Errorf("Type beyond the bound: %d", err)
		}
		if whole(s) != was {
			t.Errorf("an error has changed\n%s\nto\n%s", was, whole(s))
		}
		if at, err := s.Write(1, "12"); at != api.MaxNumber-2 || err != api.OK {
			t.Errorf("Write up to the bound: %d, %d", at, err)
		}
		if err := s.Type(1, "123"); err != api.OK {
			t.Errorf("Type up to the bound: %d", err)
		}
		if from, to, ok := s.Extent(1); from != api.MaxNumber-4 || to != api.MaxNumber || !ok {
			t.Errorf("Extent at the bound: %d, %d, %v", from, to, ok)
		}
		if at, err := s.Write(1, ""); at != api.MaxNumber || err != api.OK {
			t.Errorf("Write of nothing at the bound: %d, %d", at, err)
		}
	}
}

// Wherever a pane goes, its bytes go with it; a pane that comes with another id begins at 0.
func TestS4BytesGoWithThePane(t *testing.T) {
	d := small(t).all(newSession("a"), newSession("b"), splitRow(1), write(3, "hello"), typeInto(3, "keys"))
	for _, c := range []call{
		{name: "Swap", a: 3, b: 1}, {name: "Swap", a: 3, b: 2}, splitCol(3), {name: "Break", a: 3, b: 1, c: -1},
		{name: "Join", a: 3, b: 1, c: api.CellRow}, {name: "Join", a: 3, b: 4, c: api.CellCol}, {name: "CloseWindow", a: 1},
		{name: "Zoom", a: 3}, {name: "Arrange", a: 2, b: api.ArrTiled}, {name: "Break", a: 3, b: 2, c: -1}, {name: "ClosePane", a: 4},
		{name: "RenameSession", a: 2, text: "c"}, newSession("d"), {name: "Join", a: 3, b: 5, c: api.CellCol},
	} {
		d.must(c)
		_, end, ok := d.s.Extent(3)
		text, _, _ := d.s.Read(3, 0, 99)
		keys, _ := d.s.Typed(3)
		if !ok || end != 5 || text != "hello" || keys != "keys" {
			t.Fatalf("behind %v the pane has %q, up to %d, and %q typed; it lives: %v", c, text, end, keys, ok)
		}
	}
	d.is("$3 d 0@5 now 0 last -1", "@5 sh 80x24[80x12%5 80x11%3] now 5 last 0")
	fresh := d.must(newSession("c")).place.Pane
	if from, to, ok := d.s.Extent(fresh); from != 0 || to != 0 || !ok {
		t.Errorf("a new pane begins with %d, %d, %v", from, to, ok)
	}
}
