/-
  Plans: a layout's text is read back as the layout: the statement, walked.
-/
import Derived.Test.YtnhdhmgkenckcaaGreatDoorCZB
namespace Go.Proofs.YtnhdhmgkenckcaaGreatDoor
open Go.RowKit
set_option linter.unusedVariables false
set_option maxRecDepth 100000

set_option maxHeartbeats 4000000 in
theorem planBack_walk (v : Value) (l : List CellV) (w : World) (hv : CellsIn w v l) (hN : NumV w) : Calls Tryz.prog 3 #[v] w fun e w' => e = .returned (.bool true) ∧ Below w.heap.size w w' := by
  have HC : Hid (∀ X, Below w.heap.size w X → Calls Tryz.prog 10 #[v] X fun e w' => e = .returned (.int .i64 (checkE l)) ∧ Below X.heap.size X w') := fun X hX => check_any v l X (hv.below hX)
  have HT : Hid (Calls Tryz.prog 9 #[v] w fun e w' => e = .returned (.tuple #[.string (str (textF l)), .int .i64 (checkE l)]) ∧ Below w.heap.size w w') := text_any v l w hv hN
  have HS : Hid (∀ X, Below w.heap.size w X → Calls Tryz.prog 11 #[] X fun e w' => e = .returned (.bool true) ∧ Below X.heap.size X w') := fun X hX => sure_true X (hN.below hX)
  cases hr : readF l with
  | none =>
    have hE : checkE l = 40 := by unfold checkE; rw [hr]; rfl
    have hT : textF l = [] := by unfold textF; rw [hr]
    rw [hE] at HC HT
    rw [hT] at HT
    unfold str at HT
    clear hr hE hT hv hN
    go_enter Tryz.func3, Tryz.ntmps3
    go_wp2_with (first | (go_at_call 9; refine HT.out.mono ?_; rintro e w1 ⟨rfl, hb1⟩) | (go_at_call 10; refine (HC.out _ hb1).mono ?_; rintro e w2 ⟨rfl, hb2⟩; have H2 := hidden (below_step hb1 hb2)) | (go_at_call 11; refine (HS.out _ H2.out).mono ?_; rintro e w3 ⟨rfl, hb3⟩))
    all_goals go_ret
    exact ⟨rfl, below_step H2.out hb3⟩
  | some t =>
    have hE : checkE l = 0 := by unfold checkE; rw [hr]; rfl
    have hT : textF l = planT t := by unfold textF; rw [hr]
    have hf := lay_fit hr
    obtain ⟨s, hs⟩ : ∃ s, str (planT t) = s := ⟨_, rfl⟩
    have hsz : s.size ≤ 2048 := by rw [← hs, str_size]; unfold planT headL; simp; have := hf.txt; omega
    have HP : Hid (∀ X, Below w.heap.size w X → Calls Tryz.prog 12 #[.string s] X fun e w' => ∃ sl, e = .returned (.tuple #[sl, .int .i64 0]) ∧ CeOwns w' (X.heap.size + 2) sl l ∧ Below X.heap.size X w') := fun X hX => by rw [← hs]; exact parse_lay hr X (hN.below hX)
    have HSa : Hid (∀ u X, Below w.heap.size w X → CellsIn X u l → Calls Tryz.prog 13 #[v, u] X fun e w' => e = .returned (.bool true) ∧ Below X.heap.size X w') := fun u X hX hu => by
      have h := same_any5 v u l l X (hv.below hX) hu (by have := hf.len; omega)
      simpa using h
    rw [hE] at HC HT
    rw [hT, hs] at HT
    obtain ⟨N, hNs⟩ : ∃ N, s.size = N := ⟨_, rfl⟩
    rw [hNs] at hsz
    have hz : (N : Int) ≤ 2048 := by omega
    clear hr hE hT hv hN hf hs
    go_enter Tryz.func3, Tryz.ntmps3
    go_wp2_with (first | (go_at_call 9; refine HT.out.mono ?_; rintro e w1 ⟨rfl, hb1⟩) | (go_at_call 10; refine (HC.out _ hb1).mono ?_; rintro e w2 ⟨rfl, hb2⟩; have H2 := hidden (below_step hb1 hb2)) | (go_at_call 12; refine (HP.out _ H2.out).mono ?_; rintro e w3 ⟨sl, rfl, ho3, hb3⟩; obtain ⟨sa, sn, sc, rfl⟩ := ce_slice ho3; have H3 := hidden (below_step H2.out hb3); have HO3 := hidden ho3; clear ho3 hb3) | (go_at_call 13; refine (HSa.out _ _ H3.out HO3.out.cellsIn).mono ?_; rintro e w4 ⟨rfl, hb4⟩; have H4 := hidden (below_step H3.out hb4); clear hb4) | (go_at_call 11; refine (HS.out _ H4.out).mono ?_; rintro e w5 ⟨rfl, hb5⟩))
    all_goals go_ret
    exact ⟨rfl, below_step H4.out hb5⟩
end Go.Proofs.YtnhdhmgkenckcaaGreatDoor
