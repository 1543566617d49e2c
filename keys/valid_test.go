package keys

import (
	"math"
	"slices"
	"testing"

	"mullion/api"
)

// wantKey asks whether a key is one, and of one that is none that it has
// neither a name nor bytes.
func wantKey(t *testing.T, k api.Key, want bool) {
	t.Helper()
	if got := Valid(k); got != want {
		t.Errorf("Valid(%v) is %v", k, got)
	}
	name, plain, app := Name(k), Bytes(k, false), Bytes(k, true)
	if !want && name+plain+app != "" || want && (name == "" || plain == "" || app == "") {
		t.Errorf("%v: %q, %q, %q", k, name, plain, app)
	}
}

// wantMods asks of each Mods from -2 to 9 whether it makes a key with a code.
func wantMods(t *testing.T, code int, good ...int) {
	t.Helper()
	for mods := -2; mods <= 9; mods++ {
		wantKey(t, api.Key{Code: code, Mods: mods}, slices.Contains(good, mods))
	}
	for _, mods := range []int{math.MinInt, -1 << 32, 16, 1<<32 + 2, 1<<32 + 4, 1 << 32, math.MaxInt} {
		wantKey(t, api.Key{Code: code, Mods: mods}, false)
	}
}

func TestK1ValidCharacters(t *testing.T) {
	for _, code := range []int{33, 34, 'A', 'O', 'Z', '[', '`', '{', '}', 126, 160, 161, 255, 256, 2047, 2048, 55295, 57344, 65533, 65535, 65536, 1114110, 1114111} {
		wantMods(t, code, 0, api.ModMeta)
	}
	for _, code := range []int{'i', 'm'} {
		wantMods(t, code, 0, api.ModMeta)
	}
	for _, code := range []int{128, 133, 158, 159, 55296, 55297, 56320, 57342, 57343, 1114112, 1114113, 2000000} {
		wantMods(t, code)
	}
}

func TestK1ValidBlank(t *testing.T) {
	wantMods(t, 32, 0, api.ModMeta, api.ModCtrl, api.ModMeta+api.ModCtrl)
	wantMods(t, 31)
}

func TestK1ValidControlCharacters(t *testing.T) {
	for _, code := range []byte(`abcdefghjklnopqrstuvwxyz\]^_`) {
		wantMods(t, int(code), 0, api.ModMeta, api.ModCtrl, api.ModMeta+api.ModCtrl)
	}
}

func TestK1ValidNamedBytes(t *testing.T) {
	for _, code := range []int{13, 9, 27, 127} {
		wantMods(t, code, 0, api.ModMeta)
	}
	for code := range 32 {
		if code != 13 && code != 9 && code != 27 {
			wantMods(t, code)
		}
	}
	for _, code := range []int{-1, -9, -13, -27, -32, -33, -97, -127, -1114111} {
		wantMods(t, code)
	}
}

func TestK1ValidSpecialKeys(t *testing.T) {
	for code := api.KeyUp; code <= api.KeyF12; code++ {
		wantMods(t, code, 0, 1, 2, 3, 4, 5, 6, 7)
	}
	wantMods(t, api.KeyBackTab, 0)
	for _, code := range []int{api.KeyNone, api.KeyUp - 2, api.KeyUp - 1, api.KeyBackTab + 1, api.KeyBackTab + 2, -api.KeyUp} {
		wantMods(t, code)
	}
}

// Codes that would be those of keys if they were cut to fewer bits.
func TestK1ValidFarCodes(t *testing.T) {
	for _, high := range []int{1 << 25, 1 << 31, 1 << 32, 1 << 40, 1 << 62, -1 << 31, -1 << 32, math.MinInt} {
		for _, code := range []int{0, 9, 13, 27, 32, 33, 'a', '\\', 127, 160, 1114111, api.KeyUp, api.KeyF12, api.KeyBackTab} {
			wantMods(t, high+code)
		}
	}
	wantMods(t, math.MaxInt)
	wantMods(t, math.MinInt+1)
}

// Every code, with each Mods, against the chapter's lists.
func TestK1ValidEveryCode(t *testing.T) {
	const first, last = -300, 1114111 + 300
	spread(last-first+1, func(i int) {
		for mods := -1; mods <= 8; mods++ {
			k := api.Key{Code: first + i, Mods: mods}
			if Valid(k) != (rowByText(k).name != "") {
				t.Errorf("Valid(%v) is %v", k, Valid(k))
			}
		}
	})
}

// How many keys there are in all.
func TestK1ValidCount(t *testing.T) {
	count := 0
	for code := -300; code < 1<<24+300; code++ {
		for mods := -1; mods <= 8; mods++ {
			if Valid(api.Key{Code: code, Mods: mods}) {
				count++
			}
		}
	}
	characters := 2 * (94 + 1114112 - 160 - 2048)
	if want := characters + 4 + 2*(24+4) + 2*4 + 22*8 + 1; count != want {
		t.Errorf("%d keys, and not %d", count, want)
	}
}
