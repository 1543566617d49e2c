package octal

import (
	"math"
	"strconv"
	"strings"
	"testing"

	"mullion/api"
)

const (
	greatest = "4611686018427387904" // MaxNumber
	above    = "4611686018427387905"
)

func wantNumber(t *testing.T, s string, want int, ok bool) {
	t.Helper()
	if n, is := Number(s); n != want || is != ok {
		t.Errorf("Number(%q) = %d, %v; want %d, %v", s, n, is, want, ok)
	}
}

func wantId(t *testing.T, mark byte, s string, want int, ok bool) {
	t.Helper()
	if n, is := Id(mark, s); n != want || is != ok {
		t.Errorf("Id(%q, %q) = %d, %v; want %d, %v", mark, s, n, is, want, ok)
	}
}

func TestO4NumbersThatAre(t *testing.T) {
	for _, c := range []struct {
		n    int
		text string
	}{
		{0, "0"}, {1, "1"}, {9, "9"}, {10, "10"}, {99, "99"}, {100, "100"}, {8192, "8192"},
		{math.MaxInt32, "2147483647"}, {1 << 32, "4294967296"},
		{api.MaxNumber - 1, "4611686018427387903"}, {api.MaxNumber, greatest},
	} {
		if got := PutNumber(c.n); got != c.text {
			t.Errorf("PutNumber(%d) = %q; want %q", c.n, got, c.text)
		}
		wantNumber(t, c.text, c.n, true)
	}
	for n := range 11000 {
		wantNumber(t, PutNumber(n), n, true)
	}
}

func TestO4NumbersThatCantBePut(t *testing.T) {
	for _, n := range []int{-1, -10, math.MinInt, api.MaxNumber + 1, math.MaxInt} {
		if got := PutNumber(n); got != "" {
			t.Errorf("PutNumber(%d) = %q", n, got)
		}
	}
}

func TestO4TextsThatAreNoNumber(t *testing.T) {
	for _, s := range []string{
		"", "00", "07", "000", "01", "0" + greatest, // empty; needless zeros
		"-1", "-0", "+1", "+0", "-", "+", "--1", // signs
		" 1", "1 ", "1\n", "\x001", "1\x00", "1 2", "1.0", "1e3", "1_0", "0x1f", "a", "1a", "a1", ":", "/", "1/", "1:",
		"\xd9\xa1", "\xc2\xb2", "\xef\xbc\x91", // digits of other scripts
		above, "4611686018427387910", "4700000000000000000", "5000000000000000000",
		"9223372036854775807", "9223372036854775808", "18446744073709551616", "18446744073709551617",
		"99999999999999999999", strings.Repeat("9", 400), strings.Repeat("0", 400), "1" + strings.Repeat("0", 64),
	} {
		wantNumber(t, s, 0, false)
	}
}

func TestO4EachByteAloneAndBesideDigits(t *testing.T) {
	for i := range 256 {
		b := string([]byte{byte(i)})
		digit := i >= '0' && i <= '9'
		value := 0
		if digit {
			value = i - '0'
		}
		wantNumber(t, b, value, digit)
		if digit {
			wantNumber(t, "3"+b, 30+value, true)
		} else {
			wantNumber(t, "3"+b, 0, false)
			wantNumber(t, b+"3", 0, false)
			wantNumber(t, "3"+b+"3", 0, false)
		}
	}
}

func TestO5IdsThatAre(t *testing.T) {
	for mark := range 256 {
		head := string([]byte{byte(mark)})
		for n, digits := range map[int]string{1: "1", 3: "3", 10: "10", 4000: "4000", api.MaxNumber: greatest} {
			if got := PutId(byte(mark), n); got != head+digits {
				t.Errorf("PutId(%d, %d) = %q", mark, n, got)
			}
			wantId(t, byte(mark), head+digits, n, true)
		}
	}
}

func TestO5IdsThatCantBePut(t *testing.T) {
	for _, mark := range []byte{'$', '@', '%', '1', 0, 200} {
		for _, n := range []int{0, -1, math.MinInt, api.MaxNumber + 1, math.MaxInt} {
			if got := PutId(mark, n); got != "" {
				t.Errorf("PutId(%q, %d) = %q", mark, n, got)
			}
		}
	}
}

func TestO5TextsThatAreNoId(t *testing.T) {
	for _, s := range []string{
		"", "%", "%0", "%00", "%03", "%-1", "%+1", "% 1", "%1 ", "%1x", "%%1", "%1%", "1", "3%", " %1",
		"@3", "$3", "@%3", "%" + above, "%" + strings.Repeat("9", 100),
	} {
		wantId(t, '%', s, 0, false)
	}
	wantId(t, 200, "\xc3\x881", 0, false) // the character 200 is not the byte 200
}

func TestO5MarkThatIsADigit(t *testing.T) {
	for n := 1; n < 200; n++ {
		text := "7" + strconv.Itoa(n)
		if got := PutId('7', n); got != text {
			t.Errorf("PutId('7', %d) = %q", n, got)
		}
		wantId(t, '7', text, n, true)
	}
	wantId(t, '7', "7", 0, false)
	wantId(t, '7', "70", 0, false)
	wantId(t, '7', "705", 0, false)
	wantId(t, '7', "17", 0, false)
	wantId(t, '0', "05", 5, true)
	wantId(t, '0', "00", 0, false)
}
