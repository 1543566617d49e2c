package paint

import (
	"math"
	"strings"
	"testing"

	"mullion/api"
)

// changes are of one field each; the picture has a place at least.
func changes(place int) []func(*api.Picture) {
	return []func(*api.Picture){
		func(p *api.Picture) { p.W++ },
		func(p *api.Picture) { p.W = math.MinInt },
		func(p *api.Picture) { p.H++ },
		func(p *api.Picture) { p.H = math.MaxInt },
		func(p *api.Picture) { p.X++ },
		func(p *api.Picture) { p.X = -9 },
		func(p *api.Picture) { p.Y++ },
		func(p *api.Picture) { p.Y = -9 },
		func(p *api.Picture) { p.Hidden = !p.Hidden },
		func(p *api.Picture) { p.Title += "x" },
		func(p *api.Picture) { p.Title = "x" + p.Title },
		func(p *api.Picture) { p.Title += "\x00" },
		func(p *api.Picture) { p.Places = nil },
		func(p *api.Picture) { p.Places = p.Places[:len(p.Places)-1] },
		func(p *api.Picture) { p.Places = p.Places[1:] },
		func(p *api.Picture) { p.Places = append(p.Places, api.Glyph{}) },
		func(p *api.Picture) { p.Places[place].Text += "x" },
		func(p *api.Picture) { p.Places[place].Text = strings.Repeat("y", 1+len(p.Places[place].Text)) },
		func(p *api.Picture) { p.Places[place].Width++ },
		func(p *api.Picture) { p.Places[place].Width = -7 },
		func(p *api.Picture) { p.Places[place].Attr.Fore++ },
		func(p *api.Picture) { p.Places[place].Attr.Fore -= 1000 },
		func(p *api.Picture) { p.Places[place].Attr.Back++ },
		func(p *api.Picture) { p.Places[place].Attr.Marks ^= 8 },
		func(p *api.Picture) { p.Places[place].Attr.Marks ^= 1 << 40 },
	}
}

// wantSame asks whether two pictures are the same, both ways round.
func wantSame(t *testing.T, a, b api.Picture, want bool) {
	t.Helper()
	if Same(a, b) != want || Same(b, a) != want {
		t.Errorf("Same of %s and %s: %v and %v, not %v", drawn(a), drawn(b), Same(a, b), Same(b, a), want)
	}
}

// anyPictures are pictures with places that may be, and that may not.
func anyPictures(t *testing.T) []api.Picture {
	list := []api.Picture{
		blank(t, 1, 1), blank(t, 5, 3), spoilable(4, 3),
		with(spoilable(6, 3), func(p *api.Picture) { p.X, p.Y, p.Hidden, p.Title = 5, 2, true, "title" }),
		{Places: make([]api.Glyph, 3)},
		{W: -1, H: 1 << 40, X: -5, Y: 77, Title: "\n\x00", Places: []api.Glyph{{Text: "abc", Width: 9, Attr: api.Attr{Fore: -1, Back: -2, Marks: -3}}, {Text: "\xff"}}},
	}
	for _, spoil := range spoils {
		if p := with(spoilable(4, 3), spoil); len(p.Places) > 0 {
			list = append(list, p)
		}
	}
	return list
}

// Each field changed alone, at the first, a middle and the last place.
func TestP201SameEachField(t *testing.T) {
	for _, p := range anyPictures(t) {
		wantSame(t, p, p, true)
		wantSame(t, p, copied(p), true)
		for _, place := range []int{0, len(p.Places) / 2, len(p.Places) - 1} {
			for _, change := range changes(place) {
				wantSame(t, p, with(p, change), false)
			}
		}
	}
}

func TestP201SameNoPlaces(t *testing.T) {
	wantSame(t, api.Picture{}, api.Picture{Places: []api.Glyph{}}, true)
	wantSame(t, api.Picture{W: 3, H: 2}, api.Picture{W: 3, H: 2, Places: make([]api.Glyph, 0, 6)}, true)
	wantSame(t, api.Picture{W: 3, H: 2}, api.Picture{W: 2, H: 3}, false)
	wantSame(t, api.Picture{}, plain(1, 1, 1), false)
	wantSame(t, plain(2, 3, 6), plain(3, 2, 6), false)
}

func TestP201SameByChance(t *testing.T) {
	spread(400, func(i int) {
		d := dealt(2000 + i)
		w, h := d.size()
		p := with(plain(w, h, w*h), d.whole)
		for range 10 {
			next := d.next(p)
			wantSame(t, p, next, samePicture(p, next))
			wantSame(t, p, copied(p), true)
			p = next
		}
	})
}

// wantDiffer asks at how many places two pictures differ, both ways round.
func wantDiffer(t *testing.T, a, b api.Picture, want int, wantErr api.Errno) {
	t.Helper()
	if n, err := Differ(a, b); n != want || err != wantErr {
		t.Errorf("Differ of %s and %s: %d, error %d, not %d, %d", drawn(a), drawn(b), n, err, want, wantErr)
	}
	if n, err := Differ(b, a); n != want || err != wantErr {
		t.Errorf("Differ of %s and %s: %d, error %d, not %d, %d", drawn(b), drawn(a), n, err, want, wantErr)
	}
}

func TestP201DifferRefusals(t *testing.T) {
	good := spoilable(4, 3)
	for _, spoil := range spoils {
		bad := with(good, spoil)
		wantDiffer(t, good, bad, 0, api.ErrPicture)
		wantDiffer(t, with(bad, func(p *api.Picture) { p.Hidden = true }), blank(t, 4, 3), 0, api.ErrPicture)
		wantDiffer(t, bad, bad, 0, api.ErrPicture)
		wantDiffer(t, bad, copied(bad), 0, api.ErrPicture)
	}
	wantDiffer(t, api.Picture{}, api.Picture{}, 0, api.ErrPicture)
}

func TestP201DifferSizes(t *testing.T) {
	sizes := [][2]int{{1, 1}, {1, 2}, {2, 1}, {2, 2}, {3, 2}, {2, 3}, {6, 1}, {1, 6}, {5, 3}, {5, 4}, {6, 3}}
	for _, a := range sizes {
		for _, b := range sizes {
			want := api.ErrPicture
			if a == b {
				want = api.OK
			}
			wantDiffer(t, blank(t, a[0], a[1]), blank(t, b[0], b[1]), 0, want)
		}
	}
}

func TestP201DifferCounts(t *testing.T) {
	red := api.Attr{Fore: 2}
	from := blank(t, 6, 3)
	for _, c := range []struct {
		want   int
		change func(*api.Picture)
	}{
		{0, func(p *api.Picture) { p.X, p.Y, p.Hidden, p.Title = 5, 2, true, "x" }},
		{1, func(p *api.Picture) { put(p, 0, 0, narrow("a", api.Attr{})) }},
		{1, func(p *api.Picture) { put(p, 5, 2, narrow("a", api.Attr{})) }},
		{1, func(p *api.Picture) { put(p, 3, 1, narrow(" ", red)) }},
		{1, func(p *api.Picture) { put(p, 3, 1, narrow("\u00a0", api.Attr{})) }},
		{2, func(p *api.Picture) { put(p, 4, 1, wide("\u4e00", api.Attr{})) }},
		{2, func(p *api.Picture) { put(p, 5, 0, narrow("a", red)); put(p, 0, 1, narrow("a", red)) }},
		{9, func(p *api.Picture) {
			for i := 0; i < 18; i += 2 {
				put(p, i%6, i/6, narrow("x", api.Attr{}))
			}
		}},
		{18, func(p *api.Picture) {
			for i := range 18 {
				put(p, i%6, i/6, narrow("x", api.Attr{}))
			}
		}},
	} {
		wantDiffer(t, from, with(from, c.change), c.want, api.OK)
	}
	one := with(from, func(p *api.Picture) { put(p, 1, 1, wide("\u4e00", api.Attr{})) })
	wantDiffer(t, one, with(one, func(p *api.Picture) { put(p, 1, 1, wide("\u4e01", api.Attr{})) }), 1, api.OK)
	wantDiffer(t, one, with(one, func(p *api.Picture) { put(p, 1, 1, wide("\u4e00", red)) }), 2, api.OK)
	wantDiffer(t, one, with(one, func(p *api.Picture) { put(p, 2, 1, wide("\u4e00", api.Attr{})) }), 3, api.OK)
	wantDiffer(t, one, with(one, func(p *api.Picture) { put(p, 2, 1, narrow("a", api.Attr{})) }), 2, api.OK)
}

func TestP201DifferByChance(t *testing.T) {
	spread(400, func(i int) {
		d := dealt(3000 + i)
		w, h := d.size()
		p := with(plain(w, h, w*h), d.whole)
		for range 10 {
			next := d.next(p)
			wantDiffer(t, p, next, differing(p, next), api.OK)
			other := with(next, d.whole)
			wantDiffer(t, p, other, differing(p, other), api.OK)
			p = next
		}
	})
}

func TestP201DifferLarge(t *testing.T) {
	a := blank(t, 1000, 1000)
	b := with(a, func(p *api.Picture) {
		for i := range p.Places {
			p.Places[i].Text = "x"
		}
	})
	wantDiffer(t, a, b, 1000000, api.OK)
	wantDiffer(t, b, b, 0, api.OK)
}
