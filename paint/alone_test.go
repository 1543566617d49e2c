package paint

import (
	"math"
	"runtime"
	"slices"
	"strings"
	"sync"
	"testing"
	"unsafe"

	"mullion/api"
)

// roomy is a picture whose list has spare room with something in it.
func roomy(p api.Picture) api.Picture {
	places := append(slices.Clone(p.Places), api.Glyph{Text: "spare", Width: 77}, api.Glyph{Text: "room"})
	p.Places = places[:len(p.Places)]
	return p
}

func wholeRoom(p api.Picture) api.Picture {
	p.Places = p.Places[:cap(p.Places)]
	return p
}

// What is handed in stays as it was, spare room too, whether it may be or not.
func TestRule3ArgumentsStay(t *testing.T) {
	spread(300, func(i int) {
		d := dealt(80000 + i)
		w, h := d.size()
		from := with(blank(t, w, h), d.whole)
		to := d.next(from)
		if i%3 == 0 {
			to.Places[d.Intn(len(to.Places))].Width = 5
		}
		from, to = roomy(from), roomy(to)
		keptFrom, keptTo := copied(wholeRoom(from)), copied(wholeRoom(to))
		Check(from)
		Check(to)
		Same(from, to)
		Differ(from, to)
		Bytes(from, to)
		Bytes(to, from)
		Bytes(to, to)
		if !samePicture(wholeRoom(from), keptFrom) || !samePicture(wholeRoom(to), keptTo) {
			t.Errorf("a picture that was handed in has changed: %s, %s", drawn(from), drawn(to))
		}
	})
}

// loose is a text in memory that is written over later.
func loose(text string) (string, func()) {
	memory := []byte(text)
	return unsafe.String(unsafe.SliceData(memory), len(memory)), func() {
		for i := range memory {
			memory[i] = '!'
		}
	}
}

// The texts that are handed in are written over behind the call: the bytes that
// were told stay.
func TestRule3AnswersAreNewMemory(t *testing.T) {
	for _, title := range []string{"", "x", "title", strings.Repeat("x", 128)} {
		for _, letter := range []string{" ", "a", "\u00e9", "\U0010ffff"} {
			p := blank(t, 1, 1)
			text, spoilText := loose(letter)
			name, spoilName := loose(title)
			to := api.Picture{W: 1, H: 1, Places: narrow(text, api.Attr{}), Title: name}
			data, err := Bytes(p, to)
			kept := strings.Clone(data)
			spoilText()
			spoilName()
			if data != kept || err != api.OK {
				t.Errorf("%q was told, and is %q now", kept, data)
			}
			runtime.KeepAlive(to)
		}
	}
}

// Many at once, from many goroutines, tell what each tells alone.
func TestRule4ManyAtOnce(t *testing.T) {
	d := dealt(90000)
	from := with(blank(t, 30, 10), d.whole)
	to := d.next(with(from, d.whole))
	want, _ := Bytes(from, to)
	count := differing(from, to)
	var all sync.WaitGroup
	for worker := range 8 {
		all.Go(func() {
			other := dealt(91000 + worker)
			for range 50 {
				p := with(from, other.whole)
				begun(t, 30, 10).show(p)
				data, _ := Bytes(from, to)
				if n, _ := Differ(from, to); data != want || n != count || Same(from, to) || Check(from) != api.OK {
					t.Error("another answer than alone")
				}
			}
		})
	}
	all.Wait()
}

// What was refused ahead of a call changes nothing about it.
func TestRule4BehindRefusals(t *testing.T) {
	d := dealt(92000)
	from := with(blank(t, 9, 4), d.whole)
	to := with(from, d.whole)
	want, _ := Bytes(from, to)
	for _, spoil := range spoils {
		bad := with(spoilable(9, 4), spoil)
		Bytes(from, bad)
		Bytes(bad, to)
		Differ(bad, from)
		if data, err := Bytes(from, to); data != want || err != api.OK {
			t.Errorf("%q, error %d, behind a refusal, and not %q", data, err, want)
		}
	}
}

// Every call ends at all arguments, also at such that make no sense.
func TestRule1AnyPictures(t *testing.T) {
	numbers := []int{math.MinInt, -1001, -1, 0, 1, 2, 3, 1000, 1001, 1 << 31, 1 << 32, 1 << 62, math.MaxInt}
	spread(3000, func(i int) {
		d := dealt(100000 + i)
		number := func() int { return numbers[d.Intn(len(numbers))] }
		made := func() api.Picture {
			p := api.Picture{W: number(), H: number(), X: number(), Y: number(), Hidden: d.Intn(2) == 0, Title: texts[d.Intn(len(texts))]}
			for range d.Intn(10) {
				p.Places = append(p.Places, api.Glyph{Text: texts[d.Intn(len(texts))], Width: d.Intn(5) - 1, Attr: api.Attr{Fore: number(), Back: number(), Marks: number()}})
			}
			return p
		}
		a, b := made(), made()
		b.W, b.H = []int{a.W, b.W}[d.Intn(2)], []int{a.H, b.H}[d.Intn(2)]
		for _, p := range []api.Picture{a, b} {
			if good := Check(p) == api.OK; good != goodByText(p) {
				t.Errorf("Check of %s: %v", drawn(p), good)
			}
		}
		may := goodByText(a) && goodByText(b) && a.W == b.W && a.H == b.H
		n, err := Differ(a, b)
		data, errBytes := Bytes(a, b)
		if (err == api.OK) != may || (errBytes == api.OK) != may || !may && (n != 0 || data != "" || err != api.ErrPicture || errBytes != api.ErrPicture) {
			t.Errorf("%s and %s: Differ %d, error %d; Bytes %q, error %d", drawn(a), drawn(b), n, err, data, errBytes)
		}
		if Same(a, b) != samePicture(a, b) {
			t.Errorf("Same of %s and %s: %v", drawn(a), drawn(b), Same(a, b))
		}
	})
}

// A loop over a row's runs may be left early.
func TestRunsAreLeft(t *testing.T) {
	a := blank(t, 9, 1).Places
	b := slices.Clone(a)
	b[1].Text, b[2].Text, b[4].Text, b[8].Text = "x", "x", "x", "x"
	want := [][2]int{{1, 3}, {4, 5}, {8, 9}}
	for most := 1; most <= 4; most++ {
		var got [][2]int
		for begin, end := range runs(a, b) {
			if got = append(got, [2]int{begin, end}); len(got) == most {
				break
			}
		}
		if !slices.Equal(got, want[:min(most, 3)]) {
			t.Errorf("runs are %v, and not %v", got, want)
		}
	}
}
