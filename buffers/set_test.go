package buffers

import (
	"slices"
	"strconv"
	"strings"
	"testing"

	"mullion/api"
)

func TestBU1Empty(t *testing.T) {
	b := New()
	if list := b.List(); len(list) != 0 {
		t.Errorf("List is %s", shortList(list))
	}
	for _, name := range append([]string{"", "a", "buffer0", "x"}, absent...) {
		if got, err := b.Get(name); got != (api.Buffer{}) || err != api.ErrBuffer {
			t.Errorf("Get(%q) is %s, %d", name, short(got), err)
		}
		if err := b.Delete(name); err != api.ErrBuffer {
			t.Errorf("Delete(%q) answers %d", name, err)
		}
		if err := b.Rename(name, "to"); err != api.ErrBuffer {
			t.Errorf("Rename(%q) answers %d", name, err)
		}
	}
	begun(t).probe()
}

// So many automatic ones as the limit stay; one more pushes the oldest out.
func TestBU1Limit(t *testing.T) {
	p := begun(t)
	for i := range 20 {
		p.is("", strconv.Itoa(i), "buffer"+strconv.Itoa(i))
	}
	all := numbered("buffer", 24)
	slices.Reverse(all)
	p.names(all[4:]...)
	for i := 20; i < 24; i++ {
		p.is("", strconv.Itoa(i), "buffer"+strconv.Itoa(i))
		p.names(all[23-i:43-i]...).got("buffer"+strconv.Itoa(i-20), "", "")
	}
	p.probe()
}

// What is laid into some buffers is not in those that are made then.
func TestBU1TwoAreTheirOwn(t *testing.T) {
	p := stacked(t, "", "a", "", "b").limit(1, api.OK)
	begun(t).probe().is("", "x", "buffer0")
	p.probe().is("", "x", "buffer2")
}

func TestBU2Long(t *testing.T) {
	most := strings.Repeat("x", 65536)
	for _, name := range []string{"", "a", "buffer0", "b"} {
		p := stacked(t, "", "a")
		for _, text := range []string{most + "y", most + "\n", most + most, strings.Repeat("\u00e9", 32769)} {
			p.refuse(name, text, api.ErrLong)
		}
		p.names("a", "buffer0").got("buffer0", "buffer0", "0").got("a", "a", "1").probe()
		for _, text := range []string{most, "", "y", strings.Repeat("\n", 65536), strings.Repeat("\x00\xff", 32768), most[1:]} {
			p.lay(name, text).look()
			if got := p.buffers.List()[0].Text; got != text {
				t.Errorf("of %d bytes %d are kept", len(text), len(got))
			}
		}
		p.probe()
	}
}

// Any bytes are a text.
func TestBU2AnyBytes(t *testing.T) {
	p := begun(t)
	var every []byte
	for b := range 256 {
		every = append(every, byte(b))
		text := string([]byte{byte(b)})
		p.is("x", text, "x").got("x", "x", text)
		p.is("", text, "buffer"+strconv.Itoa(b)).got("", "buffer"+strconv.Itoa(b), text)
	}
	p.is("x", string(every), "x").got("x", "x", string(every)).probe()
}

// noWords are texts that are no names without blanks, but for the empty one.
var noWords = []string{
	" ", "  ", " a", "a ", "a b", "a  b", "a\tb", "\t", "\n", "a\n", "\x00", "a\x00", "\x1f", "a\x1fb", "\x7f", "a\x7f", "\x80", "a\x80", "\xff", "\u00e9", "a\u00e9",
	".", ":", "a.b", "a:b", ".a", ":a", "a.", "a:", "buffer.0", "buffer:0", "buffer 0",
	"!", "!a", "$", "$1", "%", "%1", "+", "+1", "-", "-a", "=", "=a", "@", "@1", "^", "^a", "{", "{a",
	strings.Repeat("x", 33), strings.Repeat("x", 1<<16), "x" + strings.Repeat(" ", 32),
}

// words are names without blanks.
var words = []string{
	"a", "A", "0", "9", "07", "~", "a!", "a$", "a%", "a+", "a-", "a=", "a@", "a^", "a{", "}", "(", ")", "*", ",", "/", ";", "<", ">", "?", "[", "\\", "]", "_", "`", "|", "\"", "#", "&", "'",
	"buffer", "buffer0", "buffer00", "buffer-1", "Buffer0", "buffer0x", strings.Repeat("x", 31), strings.Repeat("x", 32), "a" + strings.Repeat("~", 31),
}

func TestBU2Names(t *testing.T) {
	p := stacked(t, "", "a")
	for _, name := range noWords {
		p.refuse(name, "text", api.ErrName).got(name, "", "")
	}
	p.names("a", "buffer0").probe()
	for _, name := range words {
		p := begun(t)
		p.is(name, "text", name).got(name, name, "text").names(name).got("", name, "text").probe()
	}
}

// Each text of one byte, and each byte in a name's midst and at its end.
func TestBU2EachByte(t *testing.T) {
	for b := range 256 {
		for _, name := range []string{string([]byte{byte(b)}), string([]byte{'a', byte(b)}), string([]byte{'a', byte(b), 'z'}), string([]byte{byte(b), 'z'}), string(rune(b)) + "z"} {
			p := begun(t)
			p.call(call{"Set", name, "text"}).get(name).look()
			p.lay("q-q", "other").call(call{"Rename", "q-q", name}).get(name).look()
		}
	}
}

// Which of two refusals comes first.
func TestBU2WhichComesFirst(t *testing.T) {
	long := strings.Repeat("x", 65537)
	p := fullOf(t, "", "")
	p.refuse("a b", long, api.ErrLong).refuse("new", long, api.ErrLong).refuse("", long, api.ErrLong).refuse("full0", long, api.ErrLong)
	p.refuse("a b", "", api.ErrName).refuse("-", "x", api.ErrName).refuse("new", "x", api.ErrFull)
	p.probe()
}

// A new one is the newest, whichever kind; of one that is there the text is another, and it is the newest then.
func TestBU2WhereItStands(t *testing.T) {
	p := begun(t)
	p.is("", "0", "buffer0").names("buffer0")
	p.is("a", "1", "a").names("a", "buffer0")
	p.is("", "2", "buffer1").names("buffer1", "a", "buffer0")
	p.is("b", "3", "b").names("b", "buffer1", "a", "buffer0")
	p.is("a", "4", "a").names("a", "b", "buffer1", "buffer0").got("a", "a", "4")
	p.is("a", "5", "a").names("a", "b", "buffer1", "buffer0").got("a", "a", "5")
	p.is("buffer0", "6", "buffer0").names("buffer0", "a", "b", "buffer1").got("buffer0", "buffer0", "6").got("", "buffer0", "6")
	p.is("buffer1", "", "buffer1").names("buffer1", "buffer0", "a", "b").got("", "buffer1", "")
	p.is("b", "b", "b").names("b", "buffer1", "buffer0", "a").got("", "buffer1", "")
	p.probe()
}

// An automatic one that is set by its name stays automatic, a named one named, whatever its name is.
func TestBU2StaysWhatItIs(t *testing.T) {
	p := stacked(t, "", "", "", "buffer7", "a")
	p.is("buffer0", "x", "buffer0").probe().names("buffer0", "a", "buffer7", "buffer2", "buffer1")
	p.limit(1, api.OK).names("buffer0", "a", "buffer7")
	p.is("buffer7", "y", "buffer7").probe().got("", "buffer0", "x")
	p.is("", "z", "buffer3").names("buffer3", "buffer7", "a")
	p.is("buffer3", "w", "buffer3").is("", "v", "buffer4").names("buffer4", "buffer7", "a").probe()
}

// The oldest is the one that was set longest ago, not the one with the least number.
func TestBU2WhichOneGoes(t *testing.T) {
	p := stacked(t, make([]string, 20)...)
	p.is("a", "named", "a").is("buffer0", "again", "buffer0").is("buffer1", "again", "buffer1")
	p.is("", "x", "buffer20").got("buffer2", "", "").got("buffer0", "buffer0", "again").look()
	p.is("buffer3", "again", "buffer3").is("", "x", "buffer21").got("buffer4", "", "").got("buffer3", "buffer3", "again").look()
	p.del("buffer10", api.OK).is("", "x", "buffer22").got("buffer5", "buffer5", "5").look()
	p.is("", "x", "buffer23").got("buffer5", "", "").probe()
}

// Names that are there are stepped over, one or many, named by Set or by Rename.
func TestBU2CounterStepsOver(t *testing.T) {
	p := stacked(t, "buffer0", "buffer1", "buffer3", "a")
	p.is("", "x", "buffer2").is("", "x", "buffer4").names("buffer4", "buffer2", "a", "buffer3", "buffer1", "buffer0").probe()
	p.rename("a", "buffer5", api.OK).rename("buffer0", "buffer7", api.OK)
	p.is("", "x", "buffer6").is("", "x", "buffer8").is("", "x", "buffer9").probe()
	p = begun(t)
	for i := 19; i >= 0; i-- {
		p.is("buffer"+strconv.Itoa(i), "", "buffer"+strconv.Itoa(i))
	}
	p.is("", "x", "buffer20").is("", "x", "buffer21").probe()
}

// Names that only look like those of automatic ones are none of theirs.
func TestBU2CounterAndOtherNames(t *testing.T) {
	p := stacked(t, "buffer", "buffer00", "Buffer0", "buffer-0", "buffer0x", "0", "buffer01")
	p.is("", "x", "buffer0").is("", "x", "buffer1").probe()
}

// Numbers of those that went, in whichever way, are not given again; nor those that were stepped over.
func TestBU2CounterNeverGoesBack(t *testing.T) {
	p := stacked(t, "", "", "")
	p.del("buffer2", api.OK).is("", "x", "buffer3").del("buffer0", api.OK).is("", "x", "buffer4").probe()
	p.limit(1, api.OK).names("buffer4").is("", "x", "buffer5").names("buffer5")
	p.rename("buffer5", "y", api.OK).is("", "x", "buffer6").probe()
	p.is("buffer7", "named", "buffer7").is("", "x", "buffer8").del("buffer7", api.OK).is("", "x", "buffer9").probe()
	p.is("buffer0", "named", "buffer0").is("", "x", "buffer10").del("", api.OK).is("", "x", "buffer11").probe()
}

// A name that is gone when its number comes is not stepped over.
func TestBU2CounterLooksWhenItComes(t *testing.T) {
	p := stacked(t, "buffer0", "buffer1", "buffer2")
	p.del("buffer0", api.OK).rename("buffer1", "z", api.OK)
	p.is("", "x", "buffer0").is("", "x", "buffer1").is("", "x", "buffer3").probe()
}

// What is refused does not count.
func TestBU2RefusedLetsTheCounterStand(t *testing.T) {
	long := strings.Repeat("x", 65537)
	p := fullOf(t, "", "buffer1")
	for range 5 {
		p.refuse("", long, api.ErrLong).refuse("new", "x", api.ErrFull).refuse("a b", "x", api.ErrName).refuse("buffer2", "x", api.ErrFull)
	}
	p.probe().is("", "x", "buffer2").is("", "x", "buffer3").probe()
}

func TestBU2Full(t *testing.T) {
	p := begun(t)
	names := numbered("n", 20)
	for i, name := range names {
		p.is(name, strconv.Itoa(i), name)
	}
	p.refuse("n20", "x", api.ErrFull).refuse("m", "x", api.ErrFull).refuse("buffer0", "x", api.ErrFull).look()
	p.is("n0", "again", "n0").got("n0", "n0", "again").is("n7", "again", "n7").refuse("n20", "x", api.ErrFull)
	p.names(append([]string{"n7", "n0"}, "n19", "n18", "n17", "n16", "n15", "n14", "n13", "n12", "n11", "n10", "n9", "n8", "n6", "n5", "n4", "n3", "n2", "n1")...)
	p.probe()
	p.del("n3", api.OK).is("n20", "x", "n20").refuse("n3", "x", api.ErrFull).probe()
	p.del("n20", api.OK).is("n3", "x", "n3").refuse("n20", "x", api.ErrFull).probe()
}

// Automatic ones and named ones do not take one another's room.
func TestBU2BothFull(t *testing.T) {
	p := fullOf(t, make([]string, 20)...)
	if n := len(p.buffers.List()); n != 40 {
		t.Errorf("%d buffers", n)
	}
	p.refuse("new", "x", api.ErrFull).is("buffer4", "again", "buffer4").is("", "x", "buffer20").got("buffer0", "", "").probe()
	if n := len(p.buffers.List()); n != 40 {
		t.Errorf("%d buffers", n)
	}
	for i := 21; i < 60; i++ {
		p.is("", "x", "buffer"+strconv.Itoa(i))
	}
	p.probe().got("full0", "full0", "f0").got("buffer39", "", "").got("buffer40", "buffer40", "x")
	// An automatic one that is gone leaves no room for a named one.
	p.del("buffer50", api.OK).refuse("new", "x", api.ErrFull).refuse("buffer50", "x", api.ErrFull).probe()
}
