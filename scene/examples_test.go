package scene

import (
	"testing"

	"mullion/api"
)

// The window of the chapter's examples, and its pictures.
func chapters(t testing.TB) (api.Window, []api.Picture) {
	return windowOf(t, "5x3,0,0{2x3,0,0,1,2x3,3,0,2}", 1), []api.Picture{cursor(of("aa", "aa", "aa"), 1, 1, false), of("bb", "bb", "bb")}
}

func TestExample1(t *testing.T) {
	w, shown := chapters(t)
	p := draws(t, w, shown, 6, 4, "aa│bb·", "aa│bb·", "aa│bb·", "ok    ")
	wantMarked(t, p, api.Attr{Fore: 3}, "..x...", "..x...", "..x...", "......")
	wantMarked(t, p, api.Attr{Marks: api.MarkDim}, ".....x", ".....x", ".....x", "......")
	wantMarked(t, p, api.Attr{Fore: 1, Back: 3}, "......", "......", "......", "xxxxxx")
}

func TestExample2(t *testing.T) {
	w, shown := chapters(t)
	shown[0] = of("vwxyz", "-----", "12345")
	p := draws(t, zoomed(w), shown, 6, 4, "vwxyz·", "-----·", "12345·", "ok    ")
	wantMarked(t, p, api.Attr{Fore: 3}, "......", "......", "......", "......")
}

func TestExample3(t *testing.T) {
	w, shown := chapters(t)
	p := draws(t, w, shown, 3, 2, "aa│", "ok ")
	if p.X != 0 || p.Y != 0 || !p.Hidden {
		t.Errorf("the cursor lies below the window's part: %s", seen(p))
	}
	for _, p := range []api.Picture{draws(t, w, shown, 3, 1, "ok "), draws(t, zoomed(w), shown, 3, 1, "ok ")} {
		if p.X != 0 || p.Y != 0 || !p.Hidden {
			t.Errorf("nothing of the window is seen: %s", seen(p))
		}
	}
}
