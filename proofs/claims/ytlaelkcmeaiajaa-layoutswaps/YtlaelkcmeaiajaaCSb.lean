/-
  Layouts: the law of Swap.
-/
import Derived.Test.YtlaelkcmeaiajaaCSa
namespace Go.Proofs.Ytlaelkcmeaiajaa
open Go.RowKit
set_option linter.unusedVariables false
set_option maxRecDepth 100000

theorem swapL_length (l : List CellV) (a b : Int) : (swapL l a b).length ≤ 63 := by
  unfold swapL
  split
  · rename_i h
    rw [List.length_map]
    exact (read_lenS h.1).1
  · simp

set_option maxHeartbeats 1000000 in
theorem swaps_walk (v : Value) (l : List CellV) (pa pb : Int) (w : World) (hv : CellsIn w v l) (hnil : v = .slice none 0 0 ∨ ∃ a n c, v = .slice (some a) n c) (hlen : l.length * 56 ≤ 140737488351232) : Calls Try.prog 4 #[v, .int .i64 pa, .int .i64 pb] w fun x w' => x = .returned (.bool true) ∧ Below w.heap.size w w' := by
  have HTw : Hid (Calls Try.prog 5 #[v] w fun e w' => ∃ g cap, e = .returned (.slice (some ⟨g, 0, none⟩) l.length cap) ∧ TwinAt w' g cap l ∧ w.heap.size ≤ g ∧ Below w.heap.size w w') := twin_any v l w hv hnil hlen
  have HP : Hid (∀ u X, CellsIn X u l → Calls Try.prog 10 #[u, .int .i64 pa, .int .i64 pb] X fun x w' => ∃ q, x = .returned (.tuple #[q, .int .i64 (swapE l pa pb)]) ∧ CeOwns w' X.heap.size q (swapL l pa pb) ∧ Below X.heap.size X w') := fun u X hX => swap_prog u l pa pb X hX
  have HR : Hid (∀ X, Below w.heap.size w X → Calls Try.prog 11 #[v, .int .i64 pa, .int .i64 pb] X fun x w' => ∃ q, x = .returned (.tuple #[q, .int .i64 (swapE l pa pb)]) ∧ CeOwns w' X.heap.size q (swapL l pa pb) ∧ Below X.heap.size X w') := fun X hX => swap_ref v l pa pb X (hv.below hX)
  have HW : Hid (∀ W, Calls Try.prog 8 #[] W fun e w' => e = .returned (.bool true) ∧ Below W.heap.size W w') := works_true
  have HK : Hid (∀ g cap X, TwinAt X g cap l → Below w.heap.size w X → Calls Try.prog 9 #[.slice (some ⟨g, 0, none⟩) l.length cap, v] X fun e w' => e = .returned (.bool true) ∧ Below X.heap.size X w') := fun g cap X hT hX => kept_any v g cap l X hT (hv.below hX) hlen
  have HS : Hid (∀ u v W, CellsIn W u (swapL l pa pb) → CellsIn W v (swapL l pa pb) → Calls Try.prog 12 #[u, v] W fun e w' => e = .returned (.bool true) ∧ Below W.heap.size W w') := fun u v W h1 h2 => by
    have := law_any u v _ _ W h1 h2 (by have := swapL_length l pa pb; omega)
    rw [decide_eq_true rfl] at this
    exact this
  obtain ⟨er, her⟩ : ∃ e, swapE l pa pb = e := ⟨_, rfl⟩
  obtain ⟨r, hr⟩ : ∃ r, swapL l pa pb = r := ⟨_, rfl⟩
  rw [hr] at HS
  rw [her, hr] at HP HR
  obtain ⟨L, hL⟩ : ∃ L, l.length = L := ⟨_, rfl⟩
  rw [hL] at HTw HK
  have HL : Hid (l.length = L) := hL
  clear hv hnil hlen hL her hr
  go_enter Try.func4, Try.ntmps4
  go_wp2_with fail
  refine HTw.out.mono ?_
  rintro x w1 ⟨g, cap, rfl, hT, _, hb1⟩
  have H1 : Hid (TwinAt w1 g cap l ∧ Below w.heap.size w w1) := ⟨hT, hb1⟩
  have HP1 : Hid (Calls Try.prog 10 #[.slice (some ⟨g, 0, none⟩) L cap, .int .i64 pa, .int .i64 pb] w1 fun x w' => ∃ q, x = .returned (.tuple #[q, .int .i64 er]) ∧ CeOwns w' w1.heap.size q r ∧ Below w1.heap.size w1 w') := HP.out _ w1 (by have := hT.cellsIn; rw [HL.out] at this; exact this)
  clear hT hb1 HTw HP
  go_wp2_with fail
  refine HP1.out.mono ?_
  rintro x w2 ⟨q, rfl, hq, hb2⟩
  have H2 : Hid (TwinAt w2 g cap l ∧ Below w.heap.size w w2 ∧ CellsIn w2 q r) := ⟨H1.out.1.below hb2, below_step H1.out.2 hb2, hq.cellsIn⟩
  clear hb2 H1 HP1 hq
  go_wp2_with fail
  refine (HR.out _ H2.out.2.1).mono ?_
  rintro x w3 ⟨q', rfl, hq', hb3⟩
  have H3 : Hid (TwinAt w3 g cap l ∧ Below w.heap.size w w3 ∧ CellsIn w3 q r ∧ CellsIn w3 q' r) := ⟨H2.out.1.below hb3, below_step H2.out.2.1 hb3, H2.out.2.2.below hb3, hq'.cellsIn⟩
  clear hb3 H2 HR hq'
  go_wp2_with fail
  refine (HW.out _).mono ?_
  rintro x w4 ⟨rfl, hb4⟩
  have H4 : Hid (TwinAt w4 g cap l ∧ Below w.heap.size w w4 ∧ CellsIn w4 q r ∧ CellsIn w4 q' r) := ⟨H3.out.1.below hb4, below_step H3.out.2.1 hb4, H3.out.2.2.1.below hb4, H3.out.2.2.2.below hb4⟩
  clear hb4 H3 HW
  go_wp2_with fail
  refine (HS.out _ _ _ H4.out.2.2.1 H4.out.2.2.2).mono ?_
  rintro x w5 ⟨rfl, hb5⟩
  have H5 : Hid (TwinAt w5 g cap l ∧ Below w.heap.size w w5) := ⟨H4.out.1.below hb5, below_step H4.out.2.1 hb5⟩
  clear hb5 H4 HS
  go_wp2_with fail
  refine (HK.out _ _ _ H5.out.1 H5.out.2).mono ?_
  rintro x w6 ⟨rfl, hb6⟩
  have H6 : Hid (Below w.heap.size w w6) := below_step H5.out.2 hb6
  clear hb6 H5
  go_wp2
  go_ret
  exact ⟨rfl, H6.out⟩

end Go.Proofs.Ytlaelkcmeaiajaa
