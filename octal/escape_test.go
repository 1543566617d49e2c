package octal

import (
	"fmt"
	"regexp"
	"strings"
	"testing"

	"mullion/api"
)

// The escaped forms, said anew as regular languages, so that the readers are not judged by the writers.
var (
	escapedForm = regexp.MustCompile(`\A([^\x00-\x1f\\]|\\0[0-3][0-7]|\\134)*\z`)
	bodyForm    = regexp.MustCompile(`\A(|(\\045|[^%\x00-\x1f\\]|\\0[0-3][0-7]|\\134)([^\x00-\x1f\\]|\\0[0-3][0-7]|\\134)*)\z`)
)

// edges are the bytes at which the chapter's rules turn, with what codes are made of.
const edges = "\x00\n\x1f %01345789\\A~\x7f\x80\xff"

// short is every text over edges with at most four bytes: as many as a code has.
func short() []string {
	all := []string{""}
	last := all
	for range 4 {
		var next []string
		for _, s := range last {
			for i := 0; i < len(edges); i++ {
				next = append(next, s+edges[i:i+1])
			}
		}
		all = append(all, next...)
		last = next
	}
	return all
}

func eachByte() string {
	var b []byte
	for i := range 256 {
		b = append(b, byte(i))
	}
	return string(b)
}

func wantUnescape(t *testing.T, s, want string, err api.Errno) {
	t.Helper()
	if got, e := Unescape(s); got != want || e != err {
		t.Errorf("Unescape(%q) = %q, %d; want %q, %d", s, got, e, want, err)
	}
}

func wantUnescapeBody(t *testing.T, s, want string, err api.Errno) {
	t.Helper()
	if got, e := UnescapeBody(s); got != want || e != err {
		t.Errorf("UnescapeBody(%q) = %q, %d; want %q, %d", s, got, e, want, err)
	}
}

func TestO1EscapeTexts(t *testing.T) {
	for _, c := range []struct{ plain, want string }{
		{"", ""},
		{"ls -l /tmp", "ls -l /tmp"},
		{"a\nb\\", `a\012b\134`},
		{"\r\n\r\n", `\015\012\015\012`},
		{"\n7", `\0127`},
		{`\012`, `\134012`},
		{`\\`, `\134\134`},
		{"%begin 1", "%begin 1"},
		{"caf\xc3\xa9", "caf\xc3\xa9"},
		{"\xc8", "\xc8"},
		{"\xff\xfe\x00", "\xff\xfe" + `\000`},
	} {
		if got := Escape(c.plain); got != c.want {
			t.Errorf("Escape(%q) = %q; want %q", c.plain, got, c.want)
		}
	}
}

func TestO1EscapeEachByte(t *testing.T) {
	for i := range 256 {
		plain := string([]byte{byte(i)})
		want := plain
		if i < 32 || i == 92 {
			want = fmt.Sprintf(`\%03o`, i)
		}
		if got := Escape(plain); got != want {
			t.Errorf("Escape of the byte %d = %q; want %q", i, got, want)
		}
		if got := Escape("a" + plain + "z"); got != "a"+want+"z" {
			t.Errorf("Escape of the byte %d between others = %q", i, got)
		}
	}
}

func TestO2UnescapeReadsWhatEscapeWrote(t *testing.T) {
	long := strings.Repeat(eachByte(), 40)
	for _, plain := range append(short(), eachByte(), long) {
		wantUnescape(t, Escape(plain), plain, api.OK)
	}
}

func TestO2UnescapeWrongTexts(t *testing.T) {
	for _, s := range []string{
		`\`, `\0`, `\01`, `\9`, `a\`, `a\01`, `\012\`, `\012\13`, // too few digits
		`\01x`, `\0x2`, `\x12`, `\018`, `\081`, `\812`, `\01/`, `\ 12`, `\\\\\`, `\01\`, // no octal digits
		`\040`, `\045`, `\101`, `\133`, `\135`, `\177`, `\200`, `\377`, `\400`, `\412`, `\534`, `\734`, `\777`, // no value that is escaped
		"a\n", "\n", "\x00", "\x1f", "a\tb", `\012` + "\n", `\01` + "\n", "\\\n12", // a byte below 32
		`\08t`, `\p12`, `\0q2`, // bytes whose last three bits are those of a digit
		"fine so far\\", `\134\101`,
	} {
		wantUnescape(t, s, "", api.ErrEscape)
		wantUnescapeBody(t, "a"+s, "", api.ErrEscape)
	}
}

func TestO2UnescapeEachByteBelow32(t *testing.T) {
	for i := range 32 {
		wantUnescape(t, string([]byte{byte(i)}), "", api.ErrEscape)
		wantUnescape(t, string([]byte{'a', byte(i), 'b'}), "", api.ErrEscape)
	}
}

func TestO2UnescapeEachCode(t *testing.T) {
	for i := range 512 {
		s := fmt.Sprintf(`\%03o`, i)
		if i < 32 || i == 92 {
			wantUnescape(t, s, string([]byte{byte(i)}), api.OK)
			wantUnescape(t, "x"+s+"7", "x"+string([]byte{byte(i)})+"7", api.OK)
		} else {
			wantUnescape(t, s, "", api.ErrEscape)
		}
	}
}

func TestO2UnescapeIsTheInverse(t *testing.T) {
	for _, s := range short() {
		plain, err := Unescape(s)
		switch {
		case escapedForm.MatchString(s) != (err == api.OK):
			t.Errorf("Unescape(%q) = %q, %d: wrong verdict", s, plain, err)
		case err == api.OK && Escape(plain) != s:
			t.Errorf("Unescape(%q) = %q, whose escape is %q", s, plain, Escape(plain))
		case err != api.OK && (plain != "" || err != api.ErrEscape):
			t.Errorf("Unescape(%q) = %q, %d", s, plain, err)
		}
	}
}

func TestO3EscapeBody(t *testing.T) {
	for _, c := range []struct{ plain, want string }{
		{"", ""},
		{"%", `\045`},
		{"%begin 1", `\045begin 1`},
		{"%%", `\045%`},
		{"%%%", `\045%%`},
		{"a%", "a%"},
		{" %", " %"},
		{"\n%", `\012%`},
		{"%\n\\", `\045\012\134`},
		{`\045`, `\134045`},
		{`%\045`, `\045\134045`},
		{"0: [40x24] %1", "0: [40x24] %1"},
	} {
		if got := EscapeBody(c.plain); got != c.want {
			t.Errorf("EscapeBody(%q) = %q; want %q", c.plain, got, c.want)
		}
		wantUnescapeBody(t, c.want, c.plain, api.OK)
	}
}

func TestO3EscapeBodyEachByte(t *testing.T) {
	for i := range 256 {
		plain := string([]byte{byte(i), byte(i)})
		want := Escape(plain)
		if i == '%' {
			want = `\045%`
		}
		if got := EscapeBody(plain); got != want {
			t.Errorf("EscapeBody(%q) = %q; want %q", plain, got, want)
		}
	}
}

func TestO3UnescapeBodyWrongTexts(t *testing.T) {
	for _, s := range []string{
		"%", "%x", "%%", `%\045`, `%\012`,
		`x\045`, `\045\045`, `\012\045`, `%x\045`,
		`\04`, `\045\`, `\045\101`, "\\045\n", "a\n", "\n", `\101`, `\044`, `\046`,
	} {
		wantUnescapeBody(t, s, "", api.ErrEscape)
	}
}

func TestO3UnescapeBodyIsTheInverse(t *testing.T) {
	for _, s := range short() {
		wantUnescapeBody(t, EscapeBody(s), s, api.OK)
		for _, s := range []string{s, `\045` + s} {
			plain, err := UnescapeBody(s)
			switch {
			case bodyForm.MatchString(s) != (err == api.OK):
				t.Errorf("UnescapeBody(%q) = %q, %d: wrong verdict", s, plain, err)
			case err == api.OK && EscapeBody(plain) != s:
				t.Errorf("UnescapeBody(%q) = %q, whose escape is %q", s, plain, EscapeBody(plain))
			case err != api.OK && (plain != "" || err != api.ErrEscape):
				t.Errorf("UnescapeBody(%q) = %q, %d", s, plain, err)
			}
		}
	}
}

func TestO7EscapesBehindOneAnother(t *testing.T) {
	texts := []string{"", "a", "\n", `\`, `\0`, `\01`, "012", "12", "2", "%", "\x7f\xff", "\x00\x1f", eachByte()}
	for _, a := range texts {
		for _, b := range texts {
			if got, want := Escape(a+b), Escape(a)+Escape(b); got != want {
				t.Errorf("Escape(%q + %q) = %q; want %q", a, b, got, want)
			}
		}
	}
}

func TestO7WhatNoEscapeHolds(t *testing.T) {
	for _, s := range append(short(), eachByte()) {
		for _, escaped := range []string{Escape(s), EscapeBody(s)} {
			for i := 0; i < len(escaped); i++ {
				if escaped[i] < 32 {
					t.Errorf("an escape of %q holds the byte %d", s, escaped[i])
				}
			}
		}
		if strings.HasPrefix(EscapeBody(s), "%") {
			t.Errorf("EscapeBody(%q) begins with %%", s)
		}
	}
}

func TestO7DifferentTextsHaveDifferentEscapes(t *testing.T) {
	byEscape, byBody := map[string]string{}, map[string]string{}
	for _, s := range short() {
		if other, ok := byEscape[Escape(s)]; ok {
			t.Errorf("%q and %q have one escape", s, other)
		}
		if other, ok := byBody[EscapeBody(s)]; ok {
			t.Errorf("%q and %q have one body escape", s, other)
		}
		byEscape[Escape(s)], byBody[EscapeBody(s)] = s, s
	}
}
