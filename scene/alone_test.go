package scene

import (
	"math"
	"runtime"
	"slices"
	"strings"
	"sync"
	"testing"
	"unsafe"

	"mullion/api"
	"mullion/layout"
	"mullion/paint"
)

// Every call ends at all arguments, also at such that make no sense.
func TestRule1AnyArguments(t *testing.T) {
	numbers := []int{math.MinInt, -1001, -1, 0, 1, 2, 5, 6, 1000, 1001, 1 << 32, math.MaxInt}
	texts := []string{"", "ok", "\xff\xfe", "\n", strings.Repeat("\u0301", 1<<16), strings.Repeat("\xf0\x9f", 1<<16)}
	d := dealt(1)
	number := func() int { return numbers[d.Intn(len(numbers))] }
	good, shown := chapters(t)
	for range 4000 {
		cells := slices.Clone(good.Cells)
		switch d.Intn(3) {
		case 0:
			cells[d.Intn(3)] = api.Cell{Depth: number(), Kind: d.Intn(5), X: number(), Y: number(), W: number(), H: number(), Pane: number()}
		case 1:
			cells = cells[:d.Intn(4)]
		}
		w := api.Window{Id: number(), Name: d.of(texts...), Cells: cells, Active: d.Intn(4) - 1, Zoom: d.Intn(2) == 0}
		pictures := slices.Clone(shown)[:d.Intn(3)]
		if len(pictures) > 0 && d.Intn(2) == 0 {
			pictures[0].X, pictures[0].Places = number(), pictures[0].Places[:d.Intn(7)]
		}
		q := asked{w, pictures, d.of(texts...), number(), number()}
		if p, err := Of(q.w, q.shown, q.status, q.width, q.height); err != api.OK {
			refuses(t, q, err)
		} else if paint.Check(p) != api.OK || p.W != q.width || p.H != q.height {
			t.Fatal("no picture")
		}
		if id, x, y, ok := Where(w, number(), number()); !ok && (id != 0 || x != 0 || y != 0) {
			t.Fatal("something lies nowhere")
		}
		Status(d.of(texts...), number())
	}
}

// copied is a question in memory of its own.
func (q asked) copied() asked {
	q.w.Cells = slices.Clone(q.w.Cells)
	q.shown = slices.Clone(q.shown)
	for i := range q.shown {
		q.shown[i] = copied(q.shown[i])
	}
	q.status = strings.Clone(q.status)
	return q
}

func copied(p api.Picture) api.Picture {
	p.Places = slices.Clone(p.Places)
	for i := range p.Places {
		p.Places[i].Text = strings.Clone(p.Places[i].Text)
	}
	p.Title = strings.Clone(p.Title)
	return p
}

func (q asked) same(r asked) bool {
	return slices.Equal(q.w.Cells, r.w.Cells) && q.w.Active == r.w.Active && slices.EqualFunc(q.shown, r.shown, paint.Same) && q.status == r.status
}

// What is handed in stays as it was, spare room too.
func TestRule3ArgumentsStay(t *testing.T) {
	for seed := range 300 {
		q := dealt(30000 + seed).asked()
		q.w.Cells = append(q.w.Cells, api.Cell{W: 1}, api.Cell{H: 2})
		q.shown = append(q.shown, of("x"), of("y"))
		for i := range q.shown {
			q.shown[i].Places = append(q.shown[i].Places, api.Glyph{Text: "s"}, api.Glyph{Width: 9})
		}
		kept := q.copied()
		r := q
		r.w.Cells, r.shown = q.w.Cells[:len(q.w.Cells)-2], slices.Clone(q.shown[:len(q.shown)-2])
		for i := range r.shown {
			r.shown[i].Places = r.shown[i].Places[:len(r.shown[i].Places)-2]
		}
		shows(t, r)
		for x := range 20 {
			Where(r.w, x, x/2)
		}
		Status(r.status, 7)
		if !q.same(kept) {
			t.Fatalf("%s has become %s", kept.told(), q.told())
		}
	}
}

// loose is a text in memory that is written over later.
func loose(text string) (string, func()) {
	memory := []byte(text)
	return unsafe.String(unsafe.SliceData(memory), len(memory)), func() {
		for i := range memory {
			memory[i] = '!'
		}
	}
}

// All that was handed in, texts too, is written over behind the call: what was told stays.
func TestRule3NothingHandedInIsKept(t *testing.T) {
	for seed := range 300 {
		q := dealt(31000 + seed).asked()
		r := q.copied()
		var spoils []func()
		loosen := func(text *string) {
			given, spoil := loose(*text)
			*text, spoils = given, append(spoils, spoil)
		}
		loosen(&r.status)
		for i := range r.shown {
			loosen(&r.shown[i].Title)
			for k := range r.shown[i].Places {
				loosen(&r.shown[i].Places[k].Text)
			}
		}
		p, err := Of(r.w, r.shown, r.status, r.width, r.height)
		row, _ := Status(r.status, r.width)
		for _, spoil := range spoils {
			spoil()
		}
		for i := range r.shown {
			clear(r.shown[i].Places)
		}
		clear(r.shown)
		clear(r.w.Cells)
		if err != api.OK || !paint.Same(p, q.picture()) || !slices.Equal(row, statusOf(q.status, q.width)) {
			t.Fatalf("it has become %s\nand not %s", seen(p), seen(q.picture()))
		}
	}
}

// What is answered may be written over, spare room too: equal calls answer equally, and the pictures that were handed in stay.
func TestRule3AnswersAreTheirCallers(t *testing.T) {
	for seed := range 200 {
		q := dealt(32000 + seed).asked()
		kept := q.copied()
		for range 3 {
			p := shows(t, q)
			spoil(p.Places)
			spoil(statuses(t, q.status, q.width))
		}
		if !q.same(kept) {
			t.Fatalf("%s has become %s", kept.told(), q.told())
		}
	}
}

func spoil(row []api.Glyph) {
	row = row[:cap(row)]
	for i := range row {
		row[i] = api.Glyph{Text: "spoilt", Width: 7, Attr: api.Attr{Fore: 1, Back: 1, Marks: 1}}
	}
}

// What was answered stays as it was, whatever is asked later.
func TestRule3AnswersStay(t *testing.T) {
	var same []func() bool
	for seed := range 100 {
		q := dealt(33000 + seed).asked()
		p, row := shows(t, q), statuses(t, q.status, q.width)
		keptPicture, keptRow := copied(p), slices.Clone(row)
		same = append(same, func() bool { return paint.Same(p, keptPicture) && slices.Equal(row, keptRow) })
	}
	for n, is := range same {
		if !is() {
			t.Errorf("answer %d has changed", n)
		}
	}
}

// stretch is some memory.
type stretch struct{ from, behind uintptr }

func placesStretch(places []api.Glyph) stretch {
	from := uintptr(unsafe.Pointer(unsafe.SliceData(places)))
	return stretch{from, from + uintptr(cap(places))*unsafe.Sizeof(api.Glyph{})}
}

func textStretch(text string) stretch {
	from := uintptr(unsafe.Pointer(unsafe.StringData(text)))
	return stretch{from, from + uintptr(len(text))}
}

func wantApart(t *testing.T, all []stretch) {
	t.Helper()
	for i, x := range all {
		for j, y := range all[:i] {
			if x.from < y.behind && y.from < x.behind {
				t.Errorf("the parts %d and %d share memory", j, i)
			}
		}
	}
}

// Nothing that is handed in or told shares memory with anything else of it.
func TestRule3AnswersAreNewMemory(t *testing.T) {
	w, _ := chapters(t)
	d := dealt(34000)
	shown := []api.Picture{copied(d.picture(2, 3)), copied(d.picture(2, 3))}
	shown[0].Title = strings.Clone("a title")
	status := strings.Clone("status \u4e00 text")
	parts := []stretch{placesStretch(shown[0].Places), placesStretch(shown[1].Places), textStretch(status), textStretch(shown[0].Title)}
	for range 2 {
		p, _ := Of(w, shown, status, 20, 5)
		row, _ := Status(status, 20)
		parts = append(parts, placesStretch(p.Places), placesStretch(row), textStretch(p.Title))
	}
	wantApart(t, parts)
	for _, p := range shown {
		for _, g := range p.Places {
			if g.Width > 0 {
				parts = append(parts, textStretch(g.Text))
			}
		}
	}
	given := len(parts)
	p, _ := Of(w, shown, status, 20, 5)
	for _, g := range p.Places {
		told := textStretch(g.Text)
		for _, s := range parts[:given] {
			if told.from < s.behind && s.from < told.behind {
				t.Errorf("%q shares memory with what was handed in", g.Text)
			}
		}
	}
	runtime.KeepAlive([]any{shown, status, p})
}

// What is asked in between makes no difference.
func TestRule4SameCallsSameAnswers(t *testing.T) {
	for seed := range 100 {
		q, other := dealt(40000+seed).asked(), dealt(41000+seed).asked()
		first := shows(t, q)
		shows(t, other)
		statuses(t, other.status, 9)
		refuses(t, asked{q.w, nil, "", 0, 0}, api.ErrSide)
		if again := shows(t, q.copied()); !paint.Same(first, again) {
			t.Fatalf("%s\nand then %s", seen(first), seen(again))
		}
	}
}

// What the window has beside its cells, its active pane and its zoom makes no difference.
func TestRule4OtherFields(t *testing.T) {
	for seed := range 100 {
		q := dealt(42000 + seed).asked()
		first := shows(t, q)
		ids := layout.Panes(q.w.Cells)
		for _, w := range []api.Window{{Id: 9, Name: "x"}, {Id: -1, Last: ids[0]}, {Last: 77}} {
			w.Cells, w.Active, w.Zoom = q.w.Cells, q.w.Active, q.w.Zoom
			r := q
			r.w = w
			if !paint.Same(first, shows(t, r)) {
				t.Fatal("it shows something else")
			}
		}
	}
}

// Many at once, from many goroutines, over the same windows and pictures, answer what each answers alone.
func TestRule4ManyAtOnce(t *testing.T) {
	var all []asked
	for seed := range 40 {
		all = append(all, dealt(43000+seed).asked())
	}
	var work sync.WaitGroup
	for worker := range 8 {
		work.Go(func() {
			for i := range all {
				q := all[(i*7+worker*11)%len(all)]
				p, err := Of(q.w, q.shown, q.status, q.width, q.height)
				if err != api.OK || !paint.Same(p, q.picture()) {
					t.Errorf("beside others it shows %s", seen(p))
				}
				id, x, y, _ := Where(q.w, i%9, worker)
				if wantId, wantX, wantY, _ := whereOf(q.w, i%9, worker); id != wantId || x != wantX || y != wantY {
					t.Errorf("beside others the place is %d, %d, %d", id, x, y)
				}
			}
		})
	}
	work.Wait()
}
