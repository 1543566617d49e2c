package keys

import (
	"testing"

	"mullion/api"
)

func TestExample1(t *testing.T) {
	for k, want := range map[api.Key]string{{Code: 97, Mods: api.ModCtrl}: "C-a", {Code: api.KeyLeft, Mods: api.ModCtrl + api.ModShift}: "C-S-Left", {Code: 105, Mods: api.ModCtrl}: ""} {
		if got := Name(k); got != want {
			t.Errorf("Name(%v) is %q, and not %q", k, got, want)
		}
	}
	if k, err := Read("M-Enter"); k != (api.Key{Code: 13, Mods: api.ModMeta}) || err != api.OK {
		t.Errorf("Read(M-Enter) answers %v, error %d", k, err)
	}
	for _, name := range []string{"C-i", "Up2", "S-a", "M-C-a"} {
		if k, err := Read(name); k != (api.Key{}) || err != api.ErrKey {
			t.Errorf("Read(%s) answers %v, error %d", name, k, err)
		}
	}
}

func TestExample2(t *testing.T) {
	for _, c := range []struct {
		key  api.Key
		app  bool
		want string
	}{
		{api.Key{Code: api.KeyUp}, false, "\x1b[A"},
		{api.Key{Code: api.KeyUp}, true, "\x1bOA"},
		{api.Key{Code: api.KeyUp, Mods: api.ModCtrl}, true, "\x1b[1;5A"},
		{api.Key{Code: api.KeyF5, Mods: api.ModShift}, false, "\x1b[15;2~"},
		{api.Key{Code: 97, Mods: api.ModMeta}, false, "\x1ba"},
	} {
		if got := Bytes(c.key, c.app); got != c.want {
			t.Errorf("Bytes(%v, %v) is %q, and not %q", c.key, c.app, got, c.want)
		}
	}
}

func TestExample3(t *testing.T) {
	wantRead(t, "\x1b", "", "\x1b", "Escape ")
	wantRead(t, "\x1b[1", "", "\x1b[1", "M-[ 1 ")
	wantRead(t, "\x1b[99Xa", "a ", "", "")
	wantRead(t, "\x1b\x1b", "M-Escape ", "", "")
}

func TestExample4(t *testing.T) {
	d := New()
	if told := d.Feed("\xc3\xa9"); len(told) != 1 || told[0] != (api.Key{Code: 233}) {
		t.Errorf("c3 a9 tells %v", told)
	}
	wantRead(t, "\xc3\xa9", "\u00e9 ", "", "")
	wantRead(t, "\xc3\x41", "A ", "", "")
	wantRead(t, "\xff\x41", "A ", "", "")
	wantRead(t, "\xc2\x85", "", "", "")
}
