package plan

import (
	"math/rand"
	"slices"
	"strings"
	"testing"

	"mullion/api"
)

func wantNone(t *testing.T, s string, want api.Errno) {
	t.Helper()
	if l, e := Parse(s); l != nil || e != want {
		t.Errorf("Parse(%.80q): %v, error %d, not %d", s, l, e, want)
	}
}

func TestPL3WrittenTexts(t *testing.T) {
	for _, w := range written {
		if got, e := Parse(summed(w.body)); !slices.Equal(got, w.l) || e != api.OK {
			t.Errorf("Parse(%q): %v, error %d, not %v", summed(w.body), got, e, w.l)
		}
	}
}

func TestPL3Head(t *testing.T) {
	for _, s := range []string{
		"", "b", "b2", "b25", "b25e", "b25ex80x24,0,0,1", "b25e;80x24,0,0,1", ",80x24,0,0,1", "b25,80x24,0,0,1", "b25e 80x24,0,0,1",
		"0b25e,80x24,0,0,1", " b25e,80x24,0,0,1", "B25E,80x24,0,0,1", "b25E,80x24,0,0,1", "B25e,80x24,0,0,1", "b25g,80x24,0,0,1",
		"b25/,80x24,0,0,1", "b25:,80x24,0,0,1", "b25`,80x24,0,0,1", "-25e,80x24,0,0,1", "+25e,80x24,0,0,1", "0x5e,80x24,0,0,1",
		"80x24,0,0,1", "b\xe05e,80x24,0,0,1", "\n25e,80x24,0,0,1", "\x0025e,80x24,0,0,1", "-1,80", ",,,,,", "0000",
	} {
		wantNone(t, s, api.ErrPlan)
	}
}

// Each byte at each place of the head, with the right body behind it.
func TestPL3HeadByteByByte(t *testing.T) {
	const s = "b25e,80x24,0,0,1"
	for at := range 5 {
		for b := range 256 {
			text := []byte(s)
			text[at] = byte(b)
			isHex := strings.IndexByte("0123456789abcdef", byte(b)) >= 0
			switch {
			case string(text) == s:
				checkParse(t, s)
			case at < 4 && isHex:
				wantNone(t, string(text), api.ErrSum)
			default:
				wantNone(t, string(text), api.ErrPlan)
			}
		}
	}
}

func TestPL3WrongSum(t *testing.T) {
	for _, s := range []string{
		"b25f,80x24,0,0,1", "0000,80x24,0,0,1", "ffff,80x24,0,0,1", "5eb2,80x24,0,0,1", "b25e,80x24,0,0,2", "b25e,80x24,0,0,1 ",
		"b25e,80x24,0,0,10", "b25e,80x24,0,0,", "b25e,", "0001,", "b25e,b25e,80x24,0,0,1",
		// What stands behind is no body too, or no layout: the sum comes first.
		"b25e,rubbish", "b25e,80x24,1,0,1", "0000,,,", "1234,80x24,0,0{}",
	} {
		wantNone(t, s, api.ErrSum)
	}
	// Of one body all sums but the right one.
	const body = "80x24,0,0,1"
	for sum := range 65536 {
		digits := []byte{0, 0, 0, 0}
		for i := range digits {
			digits[i] = "0123456789abcdef"[sum>>(12-4*i)&15]
		}
		if sum != 0xb25e {
			wantNone(t, string(digits)+","+body, api.ErrSum)
		}
	}
}

// noBodies breaks the form at each of its places.
var noBodies = []string{
	"", " ", ",", "x", "1", "P", "80", "80x", "80x24", "80x24,", "80x24,0", "80x24,0,", "80x24,0,0", "80x24,0,0,",
	// Numbers.
	"080x24,0,0,1", "80x024,0,0,1", "80x24,00,0,1", "80x24,0,00,1", "80x24,0,0,01", "80x24,0,0,00",
	"+80x24,0,0,1", "80x+24,0,0,1", "80x24,+0,0,1", "80x24,0,-0,1", "80x24,0,0,+1", "80x24,0,0,-1", "-80x24,0,0,1",
	"x24,0,0,1", "80x,0,0,1", "80x24,,0,1", "80x24,0,,1", "80x24,0,0,,1", ",80x24,0,0,1",
	"4611686018427387905x24,0,0,1", "80x4611686018427387905,0,0,1", "80x24,4611686018427387905,0,1",
	"80x24,0,4611686018427387905,1", "80x24,0,0,4611686018427387905", "80x24,0,0,9223372036854775807",
	"80x24,0,0,9223372036854775808", "80x24,0,0,18446744073709551617", "80x24,0,0,100000000000000000000000000000000",
	"80x24,0,0,1e2", "80x24,0,0,0x1", "80x24,0,0,1_0", "80x24,0,0,1.0", "80x24,0,0,a", "80x24,0,0,\xd9\xa1", "0x50x24,0,0,1",
	" 80x24,0,0,1", "80 x24,0,0,1", "80x 24,0,0,1", "80x24, 0,0,1", "80x24,0,0, 1", "80x24,0,0,1 ",
	// Signs between.
	"80,24,0,0,1", "80X24,0,0,1", "80*24,0,0,1", "8024,0,0,1", "80xx24,0,0,1", "80x24x0,0,1", "80x24.0,0,1", "80x240,0,1",
	"80x24,0x0,1", "80x24,0;0,1", "80x24,00,1", "80x24,0,0;1", "80x24,0,0x1", "80x24,0,0:1", "80x24,0,0\n,1", "80x24,0,0%1",
	// Brackets.
	"80x24,0,0{}", "80x24,0,0[]", "80x24,0,0{", "80x24,0,0[", "80x24,0,0}", "80x24,0,0]", "80x24,0,0()", "80x24,0,0(80x24,0,0,1)",
	"{80x24,0,0,1}", "[80x24,0,0,1]", "{}", "[]", "{", "]",
	"80x24,0,0{40x24,0,0,1,39x24,41,0,2", "80x24,0,0{40x24,0,0,1,39x24,41,0,2]", "80x24,0,0[40x24,0,0,1,39x24,41,0,2}",
	"80x24,0,0[80x12,0,0,1,80x11,0,13,2", "80x24,0,0{40x24,0,0,1", "80x24,0,0{40x24,0,0,1]", "80x24,0,0{40x24,0,0,1,", "80x24,0,0{40x24,0,0,1,}",
	"80x24,0,0{,40x24,0,0,1}", "80x24,0,0{,}", "80x24,0,0{40x24,0,0,1,,39x24,41,0,2}", "80x24,0,0{40x24,0,0,1;39x24,41,0,2}", "80x24,0,0{40x24,0,0,1 39x24,41,0,2}",
	"80x24,0,0{40x24,0,0,139x24,41,0,2}", "80x24,0,0,{40x24,0,0,1,39x24,41,0,2}", "80x24,0,0,7{40x24,0,0,1,39x24,41,0,2}", "80x24,0,0{40x24,0,0,39x24,41,0,2}",
	"80x24,0,0{1,2}", "80x24,0,0{40x24,0,0}", "80x24,0,0{{40x24,0,0,1,39x24,41,0,2}}", "80x24,0,0{40x24,0,0{,39x24,41,0,2}",
	"9x5,0,0{4x5,0,0,1,4x5,5,0[4x2,5,0,2,4x2,5,3,3}]", "9x5,0,0{4x5,0,0,1,4x5,5,0[4x2,5,0,2,4x2,5,3,3]", "9x5,0,0{4x5,0,0,1,4x5,5,0[4x2,5,0,2,4x2,5,3,3}}",
	"9x5,0,0{4x5,0,0[4x2,0,0,2,4x2,0,3,3]4x5,5,0,1}",
	// Something behind.
	"80x24,0,0,1,", "80x24,0,0,1,2", "80x24,0,0,1}", "80x24,0,0,1]", "80x24,0,0,1x", "80x24,0,0,1\n", "80x24,0,0,1\x00", "80x24,0,0,1,80x24,0,0,2", "80x24,0,0,1{}",
	"80x24,0,0{40x24,0,0,1,39x24,41,0,2}}", "80x24,0,0{40x24,0,0,1,39x24,41,0,2},", "80x24,0,0{40x24,0,0,1,39x24,41,0,2},3", "80x24,0,0{40x24,0,0,1,39x24,41,0,2}{}", "80x24,0,0{40x24,0,0,1,39x24,41,0,2} ",
}

func TestPL3NoBody(t *testing.T) {
	for _, body := range noBodies {
		if isBody(body) {
			t.Errorf("the tests' grammar takes %q", body)
		}
		wantNone(t, summed(body), api.ErrPlan)
	}
}

// wellMade is bodies that say no layout.
var wellMade = []string{
	"0x24,0,0,1", "80x0,0,0,1", "1001x24,0,0,1", "80x1001,0,0,1", "80x24,1,0,1", "80x24,0,1,1", "80x24,0,0,0",
	"4611686018427387904x4611686018427387904,4611686018427387904,4611686018427387904,4611686018427387904", "0x0,0,0,0",
	"80x24,0,0{80x24,0,0,1}", "80x24,0,0[80x24,0,0,1]", "80x24,0,0{80x24,0,0[80x24,0,0,1]}",
	"80x24,0,0{40x24,0,0,1,40x24,41,0,2}", "80x24,0,0{40x24,0,0,1,39x24,40,0,2}", "80x24,0,0{40x24,0,0,1,39x23,41,0,2}", "80x24,0,0{40x24,0,0,1,39x24,41,1,2}",
	"80x24,0,0{40x24,0,0,1,39x24,41,0,1}", "80x24,0,0{40x24,0,0,1,39x24,41,0,0}", "80x24,0,0[40x24,0,0,1,39x24,41,0,2]", "80x24,0,0{39x24,41,0,2,40x24,0,0,1}",
	"80x24,0,0{40x24,0,0,1,39x24,41,0{19x24,41,0,2,19x24,61,0,3}}", "80x24,0,0[80x12,0,0,1,80x11,0,13[80x5,0,13,2,80x5,0,19,3]]",
	"80x24,0,0{40x24,0,0,1,4611686018427387904x24,41,0,2}", "80x24,0,0{4611686018427387904x24,0,0,1,4611686018427387904x24,41,0,2}",
}

func TestPL3WellMadeButNoLayout(t *testing.T) {
	for _, body := range wellMade {
		if !isBody(body) {
			t.Errorf("the tests' grammar refuses %q", body)
		}
		wantNone(t, summed(body), api.ErrLayout)
	}
	wantNone(t, summed(wantBody(manyPanes(api.MaxPanes+1), 0)), api.ErrLayout)
	const nest = "1x1,0,0{"
	for _, n := range []int{2, 30, 31, 32, 200} {
		wantNone(t, summed(strings.Repeat(nest, n)+"1x1,0,0,1"+strings.Repeat("}", n)), api.ErrLayout)
		wantNone(t, summed(strings.Repeat(nest, n)+"1x1,0,0,1"+strings.Repeat("}", n-1)), api.ErrPlan)
		wantNone(t, summed(strings.Repeat(nest, n)+"1x1,0,0,1"+strings.Repeat("}", n+1)), api.ErrPlan)
	}
	wantNone(t, summed(strings.Repeat(nest, 255)), api.ErrPlan)
}

// longBody is a well made body of that many bytes, far too many panes in a row.
func longBody(bytes int) string {
	body := "1x1,0,0{1x1,0,0,1"
	for len(body)+20 < bytes {
		body += ",1x1,0,0,2"
	}
	return body + ",1x1,0,0," + strings.Repeat("3", bytes-len(body)-10) + "}"
}

func TestPL3Longest(t *testing.T) {
	const most = api.MaxPlan - 5
	if !isBody(longBody(most)) || len(summed(longBody(most))) != api.MaxPlan {
		t.Fatal("the long body is not what it should be")
	}
	wantNone(t, summed(longBody(most-1)), api.ErrLayout)
	wantNone(t, summed(longBody(most)), api.ErrLayout)
	wantNone(t, summed(longBody(most+1)), api.ErrLong)
	for _, of := range []string{"0", ",", "x", "{", "\xff", "\x00"} {
		wantNone(t, strings.Repeat(of, api.MaxPlan+1), api.ErrLong)
		wantNone(t, summed(strings.Repeat(of, most)), api.ErrPlan)
		wantNone(t, "0000,"+strings.Repeat(of, most+1), api.ErrLong)
		wantNone(t, strings.Repeat(of, 1<<20), api.ErrLong)
	}
	wantNone(t, strings.Repeat("0", api.MaxPlan), api.ErrPlan)
	wantNone(t, "0001,"+strings.Repeat("0", most), api.ErrSum)
	// A right text with too much behind it: its length comes first.
	wantNone(t, "b25e,80x24,0,0,1"+strings.Repeat(" ", api.MaxPlan), api.ErrLong)
}

// editedBodies is a body with one byte lost, doubled, changed or put in, at each place.
func editedBodies(body string, other string) []string {
	var all []string
	for at := range len(body) {
		all = append(all, body[:at]+body[at+1:], body[:at+1]+body[at:])
		for i := range len(other) {
			all = append(all, body[:at]+other[i:i+1]+body[at+1:], body[:at]+other[i:i+1]+body[at:])
		}
	}
	for i := range len(other) {
		all = append(all, body+other[i:i+1])
	}
	return all
}

// Bodies that are near to right ones are answered as the tests' own grammar says, with a right sum.
func TestPL3EditedBodies(t *testing.T) {
	made, refused := 0, 0
	for _, w := range written {
		for _, body := range editedBodies(w.body, "0129x,{}[]+- a\xff\n") {
			checkParse(t, summed(body))
			if isBody(body) {
				made++
			} else {
				refused++
			}
		}
	}
	if made < 500 || refused < 5000 {
		t.Errorf("%d bodies were well made, %d were not: that tells little", made, refused)
	}
}

// Texts put together of a body's pieces.
func TestPL3Pieces(t *testing.T) {
	pieces := []string{"80x24,0,0", "1x1,0,0,1", ",", "{", "}", "[", "]", "80x24,0,0{40x24,0,0,1,39x24,41,0,2}", "0", "1", "x", "2x2,0,0[", "3x1,0,0{1x1,0,0,1,1x1,2,0,2}"}
	r := rand.New(rand.NewSource(3))
	made := 0
	for range 40000 {
		body := ""
		for range 1 + r.Intn(6) {
			body += pieces[r.Intn(len(pieces))]
		}
		checkParse(t, summed(body))
		if isBody(body) {
			made++
		}
	}
	if made < 200 {
		t.Errorf("%d were well made: that tells little", made)
	}
}

// Whole texts, edited: heads too.
func TestPL3EditedTexts(t *testing.T) {
	for _, w := range written {
		for _, s := range editedBodies(summed(w.body), "0af,F") {
			checkParse(t, s)
		}
	}
}
