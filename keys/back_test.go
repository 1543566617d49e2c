package keys

import (
	"slices"
	"strings"
	"testing"

	"mullion/api"
)

// Every key's bytes, whole and one by one, and then Flush, tell just this key.
func TestK5EveryKey(t *testing.T) {
	everyRow(func(r row) {
		for _, app := range []bool{false, true} {
			text := Bytes(r.key, app)
			d := New()
			told := d.Feed(text)
			told = append(told, d.Flush()...)
			if len(told) != 1 || told[0] != r.key || d.Held() != "" {
				t.Errorf("Feed(%q) and Flush tell %s, and not %s", text, listOf(told), r.name)
			}
			told = nil
			for i := range len(text) {
				told = append(told, d.Feed(text[i:i+1])...)
			}
			if told = append(told, d.Flush()...); len(told) != 1 || told[0] != r.key {
				t.Errorf("Feed(%q) byte by byte and Flush tell %s, and not %s", text, listOf(told), r.name)
			}
		}
	})
}

// wantBack feeds the bytes of keys of which none is left out of lists.
func wantBack(t *testing.T, rows []row, app func() bool) {
	var text strings.Builder
	for _, r := range rows {
		text.WriteString(Bytes(r.key, app()))
	}
	d := New()
	if told := d.Feed(text.String()); !slices.Equal(told, keysOf(rows)) || d.Held() != "" {
		t.Errorf("Feed(%.300q) tells %.300s, and not %.300s; holds %q", text.String(), listOf(told), listOf(keysOf(rows)), d.Held())
	}
	if told := d.Flush(); len(told) != 0 {
		t.Errorf("behind %.300q Flush tells %s", text.String(), listOf(told))
	}
}

// Every two keys but the characters beyond 126, of which there are some.
func TestK5EveryPair(t *testing.T) {
	rows := slices.DeleteFunc(slices.Clone(chapter.few), func(r row) bool { return !stays(r.name) })
	for _, code := range []int{160, 191, 233, 2048, 0xfffd, 65536, 1114111} {
		rows = append(rows, characterRows(code)...)
	}
	spread(len(rows), func(i int) {
		for _, r := range rows {
			wantBack(t, []row{rows[i], r}, func() bool { return false })
			wantBack(t, []row{rows[i], r}, func() bool { return true })
		}
	})
}

func TestK5Lists(t *testing.T) {
	wantBack(t, nil, func() bool { return false })
	spread(4000, func(i int) {
		d := dealt(i)
		var rows []row
		for range 1 + d.Intn(60) {
			rows = append(rows, d.staying())
		}
		wantBack(t, rows, func() bool { return false })
		wantBack(t, rows, func() bool { return true })
		wantBack(t, rows, func() bool { return d.Intn(2) == 0 })
	})
}

// M-[ and M-O are in no such list, but C-M-] and its like are, and [ and O are too.
func TestK5WhatIsNearToWhatIsLeftOut(t *testing.T) {
	var rows []row
	for _, name := range []string{"[", "O", "A", "M-Escape", "[", "A", "M-Escape", "O", "P", "M-]", "M-o", "[", "M-P", "C-M-]", "C-M-o", "M-Escape"} {
		rows = append(rows, chapter.byName[name])
	}
	for i := range rows {
		wantBack(t, rows[i:], func() bool { return true })
		wantBack(t, rows[:i], func() bool { return false })
	}
}

// The keys that are left out, as the last of a list, are told by Flush.
func TestK5LeftOutAtTheEnd(t *testing.T) {
	for _, name := range []string{"Escape", "M-[", "M-O"} {
		spread(200, func(i int) {
			d := dealt(5000 + i)
			last := chapter.byName[name]
			first := d.staying()
			dec := New()
			told := dec.Feed(first.plain + last.plain)
			if told = append(told, dec.Flush()...); !slices.Equal(told, []api.Key{first.key, last.key}) {
				t.Errorf("%s and %s are told as %s", first.name, name, listOf(told))
			}
		})
	}
}
