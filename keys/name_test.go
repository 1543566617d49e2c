package keys

import (
	"strings"
	"testing"

	"mullion/api"
)

// wantRow asks all that is said of one key.
func wantRow(t *testing.T, r row) {
	if !Valid(r.key) || Name(r.key) != r.name || Bytes(r.key, false) != r.plain || Bytes(r.key, true) != r.app {
		t.Errorf("%v: %v, %q, %q, %q, and not %q, %q, %q", r.key, Valid(r.key), Name(r.key), Bytes(r.key, false), Bytes(r.key, true), r.name, r.plain, r.app)
	}
	if k, err := Read(r.name); k != r.key || err != api.OK {
		t.Errorf("Read(%q) answers %v, error %d, and not %v", r.name, k, err, r.key)
	}
}

// Keys whose names and bytes are written out here, one of each kind.
func TestK1SomeKeys(t *testing.T) {
	for _, r := range []row{
		{api.Key{Code: '!'}, "!", "!", "!"},
		{api.Key{Code: '~', Mods: 2}, "M-~", "\x1b~", "\x1b~"},
		{api.Key{Code: '-'}, "-", "-", "-"},
		{api.Key{Code: '-', Mods: 2}, "M--", "\x1b-", "\x1b-"},
		{api.Key{Code: 'C'}, "C", "C", "C"},
		{api.Key{Code: 'M', Mods: 2}, "M-M", "\x1bM", "\x1bM"},
		{api.Key{Code: 'S', Mods: 2}, "M-S", "\x1bS", "\x1bS"},
		{api.Key{Code: 160}, "\u00a0", "\xc2\xa0", "\xc2\xa0"},
		{api.Key{Code: 233, Mods: 2}, "M-\u00e9", "\x1b\xc3\xa9", "\x1b\xc3\xa9"},
		{api.Key{Code: 0xfffd}, "\ufffd", "\xef\xbf\xbd", "\xef\xbf\xbd"},
		{api.Key{Code: 1114111}, "\U0010ffff", "\xf4\x8f\xbf\xbf", "\xf4\x8f\xbf\xbf"},
		{api.Key{Code: 32}, "Space", " ", " "},
		{api.Key{Code: 32, Mods: 2}, "M-Space", "\x1b ", "\x1b "},
		{api.Key{Code: 32, Mods: 4}, "C-Space", "\x00", "\x00"},
		{api.Key{Code: 32, Mods: 6}, "C-M-Space", "\x1b\x00", "\x1b\x00"},
		{api.Key{Code: 'a', Mods: 4}, "C-a", "\x01", "\x01"},
		{api.Key{Code: 'z', Mods: 6}, "C-M-z", "\x1b\x1a", "\x1b\x1a"},
		{api.Key{Code: '\\', Mods: 4}, `C-\`, "\x1c", "\x1c"},
		{api.Key{Code: ']', Mods: 4}, "C-]", "\x1d", "\x1d"},
		{api.Key{Code: '^', Mods: 4}, "C-^", "\x1e", "\x1e"},
		{api.Key{Code: '_', Mods: 6}, "C-M-_", "\x1b\x1f", "\x1b\x1f"},
		{api.Key{Code: 13}, "Enter", "\r", "\r"},
		{api.Key{Code: 9}, "Tab", "\t", "\t"},
		{api.Key{Code: 27}, "Escape", "\x1b", "\x1b"},
		{api.Key{Code: 127}, "BSpace", "\x7f", "\x7f"},
		{api.Key{Code: 9, Mods: 2}, "M-Tab", "\x1b\t", "\x1b\t"},
		{api.Key{Code: 27, Mods: 2}, "M-Escape", "\x1b\x1b", "\x1b\x1b"},
		{api.Key{Code: 127, Mods: 2}, "M-BSpace", "\x1b\x7f", "\x1b\x7f"},
		{api.Key{Code: api.KeyDown}, "Down", "\x1b[B", "\x1bOB"},
		{api.Key{Code: api.KeyRight, Mods: 1}, "S-Right", "\x1b[1;2C", "\x1b[1;2C"},
		{api.Key{Code: api.KeyLeft, Mods: 2}, "M-Left", "\x1b[1;3D", "\x1b[1;3D"},
		{api.Key{Code: api.KeyHome, Mods: 3}, "M-S-Home", "\x1b[1;4H", "\x1b[1;4H"},
		{api.Key{Code: api.KeyEnd}, "End", "\x1b[F", "\x1bOF"},
		{api.Key{Code: api.KeyEnd, Mods: 7}, "C-M-S-End", "\x1b[1;8F", "\x1b[1;8F"},
		{api.Key{Code: api.KeyInsert}, "Insert", "\x1b[2~", "\x1b[2~"},
		{api.Key{Code: api.KeyDelete, Mods: 4}, "C-Delete", "\x1b[3;5~", "\x1b[3;5~"},
		{api.Key{Code: api.KeyPageUp, Mods: 6}, "C-M-PageUp", "\x1b[5;7~", "\x1b[5;7~"},
		{api.Key{Code: api.KeyPageDown}, "PageDown", "\x1b[6~", "\x1b[6~"},
		{api.Key{Code: api.KeyF1}, "F1", "\x1bOP", "\x1bOP"},
		{api.Key{Code: api.KeyF4, Mods: 1}, "S-F4", "\x1b[1;2S", "\x1b[1;2S"},
		{api.Key{Code: api.KeyF5}, "F5", "\x1b[15~", "\x1b[15~"},
		{api.Key{Code: api.KeyF12, Mods: 5}, "C-S-F12", "\x1b[24;6~", "\x1b[24;6~"},
		{api.Key{Code: api.KeyBackTab}, "BTab", "\x1b[Z", "\x1b[Z"},
	} {
		wantRow(t, r)
	}
}

// Every key that there is.
func TestK1EveryKey(t *testing.T) {
	everyRow(func(r row) { wantRow(t, r) })
}

func TestK1ReadRefuses(t *testing.T) {
	names := []string{
		"", "C-", "M-", "S-", "C-M-", "C-M-S-", "C-S-", "M-S-", "-a", "--", "a-", "^a", "M-C-",
		"M-C-a", "S-M-Up", "S-C-Up", "M-C-Up", "S-M-C-Up", "C-C-a", "M-M-a", "S-S-Up", "C-C-Up", "M-M-Up", "C-M-C-Up", "C-M-M-a",
		"S-a", "C-S-a", "M-S-a", "S-Space", "C-S-Space", "S-Enter", "C-Enter", "C-Tab", "S-Tab", "C-Escape", "C-BSpace", "S-BSpace", "C-M-Enter",
		"C-BTab", "M-BTab", "S-BTab", "C-i", "C-m", "C-M-i", "C-M-m", "C-A", "C-Z", "C-[", "C-@", "C-?", "C-`", "C-{", "C-1", "C-\u00e9", "C-M-A", "S-\u00e9",
		" ", "M- ", "C- ", "\r", "\t", "\x1b", "\x7f", "\x00", "\x01", "M-\r", "\u0080", "\u009f", "M-\u0085",
		"ab", "\u00e9\u00e9", "a\u00e9", "M-ab", "aa", "a ", " a", "M-a ", "Up ", " Up", "Up\x00", "\x00Up", "Up\n",
		"Up2", "UP", "up", "uP", "Dow", "Downn", "F0", "F01", "F13", "F 1", "F1 ", "F111", "f1", "space", "SPACE", "Spac", "Esc", "escape", "Backspace", "Bspace", "btab", "BackTab", "Del", "PgUp", "Pageup", "Page Up", "Return", "enter",
		"c-a", "m-a", "s-Up", "C_a", "C+a", "C a", "Ca", "MUp", "Ma",
		"\xff", "\x80", "\xc3", "M-\xff", "M-\xc3", "\xc3\xa9\xff", "\xc0\x80", "\xc1\xa1", "\xe0\x80\xa0", "\xe0\x82\xa0", "\xed\xa0\x80", "\xed\xbf\xbf", "\xf0\x80\x82\xa0", "\xf4\x90\x80\x80", "\xf5\x80\x80\x80", "a\xff", "\xffa", "\xef\xbf", "M-\xed\xa0\x80",
		strings.Repeat("a", 1<<20), strings.Repeat("C-", 1000) + "a", strings.Repeat("\u00e9", 1000),
	}
	for _, name := range names {
		if k, err := Read(name); k != (api.Key{}) || err != api.ErrKey {
			t.Errorf("Read(%.40q) answers %v, error %d", name, k, err)
		}
		if _, ok := keyByText(name); ok {
			t.Errorf("%.40q is a name by the chapter's lists", name)
		}
	}
}

// wantNamed asks what a text names, and that its name is that text.
func wantNamed(t *testing.T, name string) {
	want, ok := keyByText(name)
	code := api.ErrKey
	if ok {
		code = api.OK
	}
	k, err := Read(name)
	if k != want || err != code {
		t.Errorf("Read(%q) answers %v, error %d, and not %v, error %d", name, k, err, want, code)
	}
	if err == api.OK && Name(k) != name {
		t.Errorf("the name of %v is %q, and not %q", k, Name(k), name)
	}
}

// Every text of up to two bytes, and every such text behind modifiers; and of
// three bytes those whose last two are edges.
func TestK1ReadShortTexts(t *testing.T) {
	heads := []string{"", "C-", "M-", "S-", "C-M-", "M-C-", "C-S-", "M-M-", "C-M-S-"}
	spread(256, func(i int) {
		a := string([]byte{byte(i)})
		for _, head := range heads {
			wantNamed(t, head+a)
			for j := range 256 {
				b := string([]byte{byte(j)})
				wantNamed(t, head+a+b)
			}
		}
		for j := range len(edges) {
			for k := range len(edges) {
				wantNamed(t, string([]byte{byte(i), edges[j], edges[k]}))
			}
		}
	})
}

// Every name behind every list of up to three modifiers, and with one byte
// spoilt, put in, left out.
func TestK1ReadSpoiltNames(t *testing.T) {
	var heads []string
	parts := []string{"", "C-", "M-", "S-"}
	for i := range 64 {
		heads = append(heads, parts[i/16]+parts[i/4%4]+parts[i%4])
	}
	spread(len(chapter.few), func(i int) {
		name := chapter.few[i].name
		for _, head := range heads {
			wantNamed(t, head+name)
		}
		for at := range len(name) {
			wantNamed(t, name[:at]+name[at+1:])
			wantNamed(t, name[:at])
			wantNamed(t, name[at:])
			for _, b := range "\x00 -019CMSaeips~\x7f\u0080\u00a0" {
				wantNamed(t, name[:at]+string(b)+name[at:])
				wantNamed(t, name[:at]+string(b)+name[at+1:])
				wantNamed(t, name+string(b))
			}
		}
	})
}

func TestK4NameAndRead(t *testing.T) {
	everyRow(func(r row) {
		if k, err := Read(Name(r.key)); k != r.key || err != api.OK {
			t.Errorf("%v is named %q, which is read as %v, error %d", r.key, Name(r.key), k, err)
		}
		if k, _ := Read(r.name); Name(k) != r.name {
			t.Errorf("%q is read as %v, which is named %q", r.name, k, Name(k))
		}
	})
}

func TestK4NoTwoKeysHaveOneName(t *testing.T) {
	names := map[string]api.Key{}
	for code := -300; code < 70000; code++ {
		for mods := range 8 {
			putName(t, names, api.Key{Code: code, Mods: mods})
		}
	}
	for code := api.KeyUp; code <= api.KeyBackTab; code++ {
		for mods := range 8 {
			putName(t, names, api.Key{Code: code, Mods: mods})
		}
	}
}

func putName(t *testing.T, names map[string]api.Key, k api.Key) {
	t.Helper()
	name := Name(k)
	if name == "" {
		return
	}
	if other, ok := names[name]; ok {
		t.Errorf("%v and %v have the name %q", other, k, name)
	}
	names[name] = k
}
