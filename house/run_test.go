package house

import (
	"strings"
	"testing"

	"mullion/api"
)

// What Parse refuses: its number and its error.
func TestP185WhatParseRefuses(t *testing.T) {
	for _, lines := range wrongLines() {
		for _, line := range lines {
			for _, text := range []string{line, begin + line, begin + "tick\n\n" + line + "\ntick\n"} {
				want := parse(text)
				if got, n, err := Run(text); got != "" || n != want.n || n == 0 || err != api.ErrScript {
					t.Errorf("Run(%q): %q, line %d, error %d, and not line %d", text, got, n, err, want.n)
				}
			}
		}
	}
	for text, want := range map[string]parsed{
		strings.Repeat("#", api.MaxScript+1): {err: api.ErrLong}, begin + strings.Repeat("tick\n", api.MaxEntries+1): {n: api.MaxEntries + 2, err: api.ErrFull},
		"": {err: api.ErrScript}, "#\n\n": {n: 2, err: api.ErrScript},
	} {
		if got, n, err := Run(text); got != "" || n != want.n || err != want.err {
			t.Errorf("Run(%.50q): %q, line %d, error %d", text, got, n, err)
		}
	}
}

// What Play refuses: its error, and no line.
func TestP185WhatPlayRefuses(t *testing.T) {
	for _, line := range []string{"server 0 24 100", "server 80 0 100", "server 1001 24 100", "server 80 1001 100", "server 80 24 65537", "server 0 0 4611686018427387904"} {
		for _, behind := range []string{"", "\n", "\ntick\n", "\n# a\ndone 1"} {
			if got, n, err := Run(line + behind); got != "" || n != 0 || err != api.ErrArg {
				t.Errorf("Run(%q): %q, line %d, error %d", line+behind, got, n, err)
			}
		}
	}
	// A line that is wrong comes ahead of a server that can't be.
	if got, n, err := Run("server 0 0 0\ntick\nnothing\n"); got != "" || n != 3 || err != api.ErrScript {
		t.Errorf("%q, line %d, error %d", got, n, err)
	}
}

// All others: what Play tells.
func TestP185WhatIsPlayed(t *testing.T) {
	for seed := range int64(20) {
		c, l := deal(3000+seed, 60)
		for i, e := range l { // what no script says is left out
			if !isSayable(e) || e.Client < 0 || e.Pane < 0 || e.N < 0 {
				l[i] = api.Entry{Kind: api.InTick}
			}
		}
		want, _ := Play(c, l)
		text := newAuthor(seed).loose(c, l)
		if got, n, err := Run(text); got != want || n != 0 || err != api.OK || want == "" {
			t.Errorf("seed %d: line %d, error %d, %s", seed, n, err, differing(got, want))
		}
	}
	most := begin + strings.Repeat("tick\n", api.MaxEntries)
	if got, n, err := Run(most); !strings.HasSuffix(got, "\n3999: ok\nserver, tick 4000\n") || n != 0 || err != api.OK {
		t.Errorf("MaxEntries ticks: line %d, error %d", n, err)
	}
	long := most + "#" + strings.Repeat("x", api.MaxScript-len(most)-1)
	if got, n, err := Run(long); !strings.HasSuffix(got, "\nserver, tick 4000\n") || n != 0 || err != api.OK {
		t.Errorf("MaxScript bytes: line %d, error %d", n, err)
	}
}

// The examples of the chapter.
func TestP185ExamplesOfTheChapter(t *testing.T) {
	for _, x := range []struct {
		text, want string
		n          int
		err        api.Errno
	}{
		{"server 80 24 100\ntick\n", "0: ok\nserver, tick 1\n", 0, api.OK},
		{"tick\n", "", 1, api.ErrScript},
		{"", "", 0, api.ErrScript},
		{"server 0 24 100\n", "", 0, api.ErrArg},
		{"server 80 24 100\nattach 1\n", "", 2, api.ErrScript},
	} {
		if got, n, err := Run(x.text); got != x.want || n != x.n || err != x.err {
			t.Errorf("Run(%q): %q, line %d, error %d", x.text, got, n, err)
		}
	}
	got, err := Print(config, []api.Entry{{Kind: api.InInput, Client: 1, Text: "a\n"}, {Kind: api.InTick}})
	if got != "server 80 24 100\ninput 1 a\\012\ntick\n" || err != api.OK {
		t.Errorf("Print: %q, error %d", got, err)
	}
	if got, err := Print(config, []api.Entry{{Kind: api.InTick, N: 1}}); got != "" || err != api.ErrScript {
		t.Errorf("Print: %q, error %d", got, err)
	}
}
