package target

import (
	"fmt"
	"math/big"
	"testing"

	"mullion/api"
	"mullion/layout"
)

// amounts are those by which one goes, as they are written.
func amounts() []string {
	all := []string{"4611686018427387904", "4611686018427387903", "4611686018427387902", "4611686018427387901", "1000000000000000003", "2147483648", "4294967296"}
	for n := range 70 {
		all = append(all, fmt.Sprint(n))
	}
	return all
}

// onFrom answers the place so many steps from another one, of so many places.
func onFrom(at int, step string, of int) int {
	n, _ := new(big.Int).SetString(step, 10)
	n.Add(n, big.NewInt(int64(at)))
	return int(n.Mod(n, big.NewInt(int64(of))).Int64())
}

func TestT6LinksRoundAndRound(t *testing.T) {
	for links := 1; links <= 7; links++ {
		names := make([]string, links)
		for i := range names {
			names[i] = "w"
		}
		for at := range links {
			s := linked(2*at+1, -1, names...)
			for _, amount := range amounts() {
				for _, step := range []string{"+" + amount, "-" + amount} {
					to := onFrom(at, step, links)
					want := answer{place(1, 2*to+1, to+1, to+1), api.OK}
					if got := found(s, 1, step, api.MeanWindow); got != want {
						t.Fatalf("%s from %d of %d: %v, and not %v", step, at, links, got, want)
					}
				}
			}
		}
	}
}

func TestT6PanesRoundAndRound(t *testing.T) {
	cells := fourPanes(t)
	for at, active := range layout.Panes(cells) {
		s := paned(cells, active, 0)
		for _, amount := range amounts() {
			for _, step := range []string{"+" + amount, "-" + amount} {
				want := answer{place(1, 5, 1, []int{7, 3, 9, 4}[onFrom(at, step, 4)]), api.OK}
				if got := found(s, 1, "."+step, api.MeanPane); got != want {
					t.Fatalf("%s from %d: %v, and not %v", step, active, got, want)
				}
			}
		}
	}
}

func TestT6AMultipleComesBack(t *testing.T) {
	s := rich()
	for _, x := range s.Sessions {
		f := finder{t, s, x.Id}
		here := found(s, x.Id, "", api.MeanPane).Place
		panes := 0
		for _, w := range s.Windows {
			if w.Id == here.Window {
				panes = len(layout.Panes(w.Cells))
			}
		}
		for _, times := range []int{0, 1, 2, 3, 100, 1 << 50} {
			for _, sign := range []string{"+", "-"} {
				f.means(fmt.Sprint(sign, times*len(x.Links)), api.MeanWindow, here)
				f.means(fmt.Sprint(sign, times*panes), api.MeanPane, here)
			}
		}
	}
}

func TestT6NoNumber(t *testing.T) {
	for _, n := range []string{"x", "00", "01", "1x", " 1", "1 ", "+", "-", "+1", "-1", "1.5x", "4611686018427387905", "9223372036854775808", "99999999999999999999", "*", "1*", "0x1", "\n"} {
		for _, sign := range []string{"+", "-"} {
			f := finder{t, rich(), 3}
			for _, mean := range allMeans() {
				f.fails(":"+sign+n, mean, api.ErrTarget)
			}
			f.fails(sign+n, api.MeanWindow, api.ErrTarget)
			f.fails(sign+n, api.MeanPane, api.ErrTarget)
			f.fails("."+sign+n, api.MeanPane, api.ErrTarget)
			f.fails("log."+sign+n, api.MeanPane, api.ErrTarget)
		}
	}
}
