/-
  Layouts: replace, in the program.
  Layouts: replace by a part of its new parent's kind, in the program.
-/
import Derived.Test.YtnepemlagnnngaaCRe
import Derived.Test.YtnepemlagnnngaaCFj
namespace Go.Proofs.Ytnepemlagnnngaa
open Go.RowKit Go.Lib
set_option linter.unusedVariables false
set_option maxRecDepth 100000

/-- What replace leaves of the split whose part gave way. -/
def Grafted (g i : Nat) (b : Box) (k : Int) (pg L : Nat) (vs us : List Value) (root : Value) (w : World) (e : Ending) (w' : World) : Prop :=
  e = .returned root ∧ ∃ g' c', SplitAt w' g b k (.slice (some ⟨g', 0, none⟩) (L - 1 + us.length) c') ∧ w'.ownsRow 0 56 1 (.slice (some ⟨g', 0, none⟩) (L - 1 + us.length) c') (L - 1 + us.length) (vs.take i ++ (us ++ vs.drop (i + 1))) ∧ (g' = pg ∨ w.heap.size ≤ g') ∧ But [g, pg] w w'

set_option maxHeartbeats 2000000 in
theorem replace_no (root : Value) (wg wo wn wc g i : Nat) (b : Box) (k : Int) (pg L cap : Nat) (vs : List Value) (s : Tree) (v : Value) (us : List Value) (w : World) (hw0 : w.cell? ⟨wg, wo, none⟩ = some (.pointer (some ⟨g, 0, none⟩))) (hw1 : w.cell? ⟨wg, wo + 1, none⟩ = some (.int .i64 i)) (hwn : 1 ≤ wn) (hS : SplitAt w g b k (.slice (some ⟨pg, 0, none⟩) L cap)) (hR : w.ownsRow 0 56 1 (.slice (some ⟨pg, 0, none⟩) L cap) L vs) (hi : i < L) (hL : L ≤ 1000) (hF : FlatAt w k s v us) (hgp : g ≠ pg) (hno : s.kindIs k = false) :
    Calls Try.prog 32 #[root, .slice (some ⟨wg, wo, none⟩) wn wc, v] w (Grafted g i b k pg L vs us root w) := by
  have hu := hF.no hno
  subst hu
  obtain ⟨T, gi, Fs, Fa, HP⟩ := hF.part
  have hv := HP.val
  subst hv
  have q4 : w.cell? ⟨g, 4, none⟩ = some (.int .i64 k) := cell_atL hS 4
  have q5 : w.cell? ⟨g, 5, none⟩ = some (.slice (some ⟨pg, 0, none⟩) L cap) := cell_atL hS 5
  have m1 := HP.mA
  have m2 := HP.fA
  have m3 := HP.nA
  have HcA : Hid (∀ m, Calls Try.prog Fa #[.pointer (some ⟨gi, 0, none⟩), .int .i64 k] ((w.alloc (.cells #[.pointer (some ⟨g, 0, none⟩), .int .i64 i] 98)).drewN m) fun e w' => e = .returned (.pointer none) ∧ (w.alloc (.cells #[.pointer (some ⟨g, 0, none⟩), .int .i64 i] 98)).drewN m = w') := fun m => by
    have hcA := HP.cA k _ (below_drewN ((Below.refl _ _).alloc (Nat.le_refl _) (.cells #[.pointer (some ⟨g, 0, none⟩), .int .i64 i] 98)) m)
    rw [hno] at hcA
    exact hcA
  obtain ⟨cur, hg, a1, a2, a3, a4, a5⟩ := own_open hR
  obtain ⟨old, hold⟩ : ∃ old, w.cell? ⟨pg, i, none⟩ = some old := by
    rw [cell_atL hg]
    exact ⟨_, Array.getElem?_eq_getElem (by omega)⟩
  have hfz : w.frozen? ⟨pg, i, none⟩ = false := free_atL hg i
  have HE : Hid (∀ X, Below w.heap.size w X → Grafted g i b k pg L vs [.iface T (.pointer (some ⟨gi, 0, none⟩))] root w (.returned root) (X.setCell ⟨pg, i, none⟩ (.iface T (.pointer (some ⟨gi, 0, none⟩))))) := by
    intro X hX
    have hst := (World.ownsRow.stored (own_below hR hX) i (.iface T (.pointer (some ⟨gi, 0, none⟩)))).1
    have hset : vs.set i (.iface T (.pointer (some ⟨gi, 0, none⟩))) = vs.take i ++ ([.iface T (.pointer (some ⟨gi, 0, none⟩))] ++ vs.drop (i + 1)) := by
      rw [List.set_eq_take_append_cons_drop, if_pos (by omega)]
      rfl
    rw [hset] at hst
    refine ⟨rfl, pg, cap, ?_, ?_, .inl rfl, ?_⟩
    · rw [show L - 1 + [Value.iface T (.pointer (some ⟨gi, 0, none⟩))].length = L by show L - 1 + 1 = L; omega]
      exact (Below.heap_setCell _ _ _ _ hgp).trans (hS.below hX)
    · rw [show L - 1 + [Value.iface T (.pointer (some ⟨gi, 0, none⟩))].length = L by show L - 1 + 1 = L; omega]
      exact hst
    · have h1 : But [g, pg] w X := ⟨hX.os, hX.tape, hX.output, hX.size, fun q hq _ => hX.block q hq⟩
      exact h1.trans ((But.grown (grownBy_set X pg i _)).mono (by simp))
  have q4a : ∀ o, (w.alloc o).cell? ⟨g, 4, none⟩ = some (.int .i64 k) := fun o => cell?_alloc_some o q4
  have q5a : ∀ o, (w.alloc o).cell? ⟨g, 5, none⟩ = some (.slice (some ⟨pg, 0, none⟩) L cap) := fun o => cell?_alloc_some o q5
  have holda : ∀ o, (w.alloc o).cell? ⟨pg, i, none⟩ = some old := fun o => cell?_alloc_some o hold
  have hfza : ∀ o, (w.alloc o).frozen? ⟨pg, i, none⟩ = false := fun o => by
    rw [World.frozen?_of_block (w' := w.alloc o) (w := w) (a := ⟨pg, i, none⟩) (((Below.refl _ _).alloc (Nat.le_refl _) o).block pg (lt_of_block hg))]
    exact hfz
  clear HP hF hS hR hno hgp hg a1 a2 a3 a4 a5
  go_enter Try.func32, Try.ntmps32
  go_wp2_with fail
  refine wp_region_quiet_lit (by kernel_rfl) (by kernel_rfl) ?_
  repeat (quiet_step ((exact Calls.quiet_of_same ((HcA.out _).mono fun e w' h => ⟨h.1, h.2.symm⟩))))
  refine wpQuiet_nil ?_
  intro _ hw'
  obtain ⟨nq, hw''⟩ := hw'
  subst hw''
  go_wp2
  go_region
  go_wp2
  go_ret
  exact HE.out _ (Below.drew (below_drewN ((Below.refl _ _).alloc (Nat.le_refl _) _) nq))

end Go.Proofs.Ytnepemlagnnngaa

namespace Go.Proofs.Ytnepemlagnnngaa
open Go.RowKit Go.Lib
set_option linter.unusedVariables false
set_option maxRecDepth 100000

set_option maxHeartbeats 600000 in
theorem replace_yes (root : Value) (wg wo wn wc g i : Nat) (b : Box) (k : Int) (pg L cap : Nat) (vs : List Value) (s : Tree) (v : Value) (us : List Value) (w : World) (hw0 : w.cell? ⟨wg, wo, none⟩ = some (.pointer (some ⟨g, 0, none⟩))) (hw1 : w.cell? ⟨wg, wo + 1, none⟩ = some (.int .i64 i)) (hwn : 1 ≤ wn) (hS : SplitAt w g b k (.slice (some ⟨pg, 0, none⟩) L cap)) (hR : w.ownsRow 0 56 1 (.slice (some ⟨pg, 0, none⟩) L cap) L vs) (hi : i < L) (hL : L ≤ 1000) (hF : FlatAt w k s v us) (hgp : g ≠ pg) (hyes : s.kindIs k = true) (hdis : ∀ gi g' c', v = splitI gi → w.cell? ⟨gi, 5, none⟩ = some (.slice (some ⟨g', 0, none⟩) us.length c') → g' ≠ pg ∧ gi ≠ pg) (hm : 2 ≤ us.length) (hm2 : us.length ≤ 1000) (hone : ∀ u ∈ us, u.oneCell' = true) (hone' : ∀ u ∈ vs, u.oneCell' = true) :
    Calls Try.prog 32 #[root, .slice (some ⟨wg, wo, none⟩) wn wc, v] w (Grafted g i b k pg L vs us root w) := by
  obtain ⟨T, gi, Fs, Fa, HP⟩ := hF.part
  obtain ⟨gi', g', c', e1, e2, e3⟩ := hF.yes hyes
  have hv := HP.val
  rw [e1] at hv
  cases hv
  obtain ⟨hne, hgip⟩ := hdis gi g' c' e1 e2
  subst e1
  obtain ⟨m, hmm⟩ : ∃ m, us.length = m := ⟨_, rfl⟩
  rw [hmm] at e2 e3 hm hm2
  have q4 : w.cell? ⟨g, 4, none⟩ = some (.int .i64 k) := cell_atL hS 4
  have q5 : w.cell? ⟨g, 5, none⟩ = some (.slice (some ⟨pg, 0, none⟩) L cap) := cell_atL hS 5
  have m1 := HP.mA
  have m2 := HP.fA
  have m3 := HP.nA
  have HcA : Hid (∀ n, Calls Try.prog Fa #[.pointer (some ⟨gi, 0, none⟩), .int .i64 k] ((w.alloc (.cells #[.pointer (some ⟨g, 0, none⟩), .int .i64 i] 98)).drewN n) fun e w' => e = .returned (.pointer (some ⟨gi, 0, none⟩)) ∧ (w.alloc (.cells #[.pointer (some ⟨g, 0, none⟩), .int .i64 i] 98)).drewN n = w') := fun n => by
    have hcA := HP.cA k _ (below_drewN ((Below.refl _ _).alloc (Nat.le_refl _) (.cells #[.pointer (some ⟨g, 0, none⟩), .int .i64 i] 98)) n)
    rw [hyes] at hcA
    exact hcA
  have HR : Hid (∀ X, Below w.heap.size w X → Calls Try.prog 61 #[.slice (some ⟨pg, 0, none⟩) L cap, .int .i64 (i : Int), .int .i64 ((i : Int) + 1), .slice (some ⟨g', 0, none⟩) m c'] X (Replaced pg L m (vs.take i ++ (us ++ vs.drop (i + 1))) X)) := by
    intro X hX
    have r1 := own_below hR hX
    have r2 := own_below e3 hX
    by_cases hl : i + 1 = L
    · have := replace_end pg L cap g' m c' vs us X r1 r2 hone hm hm2 (by omega) hL
      rw [show ((L - 1 : Nat) : Int) = (i : Int) by omega, show (L : Int) = (i : Int) + 1 by omega, show L - 1 = i by omega] at this
      rw [show vs.drop (i + 1) = [] from List.drop_eq_nil_of_le (by have := hR.1; omega), List.append_nil]
      exact this
    · by_cases hc : L - 1 + m ≤ cap
      · exact replace_room pg L cap g' m c' i vs us X r1 r2 (Ne.symm hne) hone hone' hm hm2 (by omega) hL hc
      · exact replace_grow pg L cap g' m c' i vs us X r1 r2 hone hone' hm hm2 (by omega) hL (by omega)
  have hgl : g < w.heap.size := lt_of_block hS
  have HE : Hid (∀ X Y e, Below w.heap.size w X → Replaced pg L m (vs.take i ++ (us ++ vs.drop (i + 1))) X e Y → ∃ g'' c'', e = .returned (.slice (some ⟨g'', 0, none⟩) (L - 1 + m) c'') ∧ Y.cell? ⟨g, 5, none⟩ = some (.slice (some ⟨pg, 0, none⟩) L cap) ∧ Y.frozen? ⟨g, 5, none⟩ = false ∧ (∀ a, a.block < X.heap.size → a.block ≠ pg → Y.cell? a = X.cell? a) ∧ Grafted g i b k pg L vs us root w (.returned root) (Y.setCell ⟨g, 5, none⟩ (.slice (some ⟨g'', 0, none⟩) (L - 1 + m) c''))) := by
    intro X Y e hX hRp
    obtain ⟨g'', c'', rfl, ho, hg, hb⟩ := hRp
    have hSY : SplitAt Y g b k (.slice (some ⟨pg, 0, none⟩) L cap) := (hb.block g (Nat.lt_of_lt_of_le hgl hX.size) (by simpa using hgp)).trans (hS.below hX)
    have hgg : g'' ≠ g := by
      rcases hg with h | h
      · rw [h]; exact Ne.symm hgp
      · have := hX.size
        omega
    refine ⟨g'', c'', rfl, cell_atL hSY 5, free_atL hSY 5, fun a ha hn => World.cell?_of_block (hb.block a.block ha (by simpa using hn)), rfl, g'', c'', ?_, ?_, ?_, ?_⟩
    · rw [hmm]
      exact hSY.setSl _
    · rw [hmm]
      refine own_kept ho fun q hq => Below.heap_setCell _ _ _ _ ?_
      have : q = g'' := by simpa [Value.ownBlock] using hq
      rw [this]
      exact hgg
    · rcases hg with h | h
      · exact .inl h
      · exact .inr (Nat.le_trans hX.size h)
    · have h1 : But [g, pg] w X := ⟨hX.os, hX.tape, hX.output, hX.size, fun q hq _ => hX.block q hq⟩
      exact (h1.trans (hb.mono (by simp))).trans ((But.grown (grownBy_set Y g 5 _)).mono (by simp))
  have q4a : ∀ o, (w.alloc o).cell? ⟨g, 4, none⟩ = some (.int .i64 k) := fun o => cell?_alloc_some o q4
  have q5a : ∀ o, (w.alloc o).cell? ⟨g, 5, none⟩ = some (.slice (some ⟨pg, 0, none⟩) L cap) := fun o => cell?_alloc_some o q5
  have q6a : ∀ o, (w.alloc o).cell? ⟨gi, 5, none⟩ = some (.slice (some ⟨g', 0, none⟩) m c') := fun o => cell?_alloc_some o e2
  have hpl : pg < w.heap.size := by
    obtain ⟨cur, hg, _⟩ := own_open hR
    exact lt_of_block hg
  have Hpg : Hid (pg < w.heap.size) := hpl
  have hng1 : ¬ w.heap.size = g := by omega
  have hng2 : ¬ g = w.heap.size := by omega
  have HX0 : Hid (∀ n, Below w.heap.size w ((w.alloc (.cells #[.pointer (some ⟨g, 0, none⟩), .int .i64 i] 98)).drewN n) ∧ w.heap.size < ((w.alloc (.cells #[.pointer (some ⟨g, 0, none⟩), .int .i64 i] 98)).drewN n).heap.size ∧ ((w.alloc (.cells #[.pointer (some ⟨g, 0, none⟩), .int .i64 i] 98)).drewN n).cell? ⟨w.heap.size, 0, none⟩ = some (.pointer (some ⟨g, 0, none⟩)) ∧ ((w.alloc (.cells #[.pointer (some ⟨g, 0, none⟩), .int .i64 i] 98)).drewN n).cell? ⟨w.heap.size, 1, none⟩ = some (.int .i64 i)) := fun n => by
    refine ⟨below_drewN ((Below.refl _ _).alloc (Nat.le_refl _) _) n, ?_, ?_, ?_⟩
    · show w.heap.size < (w.alloc _).heap.size
      simp
    · show (w.alloc _).cell? ⟨w.heap.size, 0, none⟩ = _
      rw [cell_newL]
      rfl
    · show (w.alloc _).cell? ⟨w.heap.size, 1, none⟩ = _
      rw [cell_newL]
      rfl
  have hw1' : IntKind.i64.wrap ((i : Int) + 1) = (i : Int) + 1 := by rw [IntKind.wrap_i64]; omega
  clear HP hF hS hR hyes hgp hone hone' e3 hdis hgl hmm hpl
  unfold splitI
  go_enter Try.func32, Try.ntmps32
  go_wp2_with fail
  refine wp_region_quiet_lit (by kernel_rfl) (by kernel_rfl) ?_
  repeat (quiet_step ((exact Calls.quiet_of_same ((HcA.out _).mono fun e w' h => ⟨h.1, h.2.symm⟩))))
  refine wpQuiet_nil ?_
  intro _ hw'
  obtain ⟨nq, hw''⟩ := hw'
  subst hw''
  obtain ⟨W, hW⟩ : ∃ W, (w.alloc (.cells #[.pointer (some ⟨g, 0, none⟩), .int .i64 i] 98)).drewN nq = W := ⟨_, rfl⟩
  obtain ⟨hBW, hlt, c0, c1⟩ := HX0.out nq
  have c5 : W.cell? ⟨g, 5, none⟩ = some (.slice (some ⟨pg, 0, none⟩) L cap) := by rw [← hW]; exact q5a _
  have c6 : W.cell? ⟨gi, 5, none⟩ = some (.slice (some ⟨g', 0, none⟩) m c') := by rw [← hW]; exact q6a _
  rw [hW] at hBW hlt c0 c1 ⊢
  have HC : Hid (Calls Try.prog 61 #[.slice (some ⟨pg, 0, none⟩) L cap, .int .i64 (i : Int), .int .i64 ((i : Int) + 1), .slice (some ⟨g', 0, none⟩) m c'] W.drew fun e Y => ∃ g'' c'', e = .returned (.slice (some ⟨g'', 0, none⟩) (L - 1 + m) c'') ∧ Y.cell? ⟨g, 5, none⟩ = some (.slice (some ⟨pg, 0, none⟩) L cap) ∧ Y.frozen? ⟨g, 5, none⟩ = false ∧ Y.cell? ⟨w.heap.size, 0, none⟩ = some (.pointer (some ⟨g, 0, none⟩)) ∧ Y.cell? ⟨w.heap.size, 1, none⟩ = some (.int .i64 i) ∧ Y.cell? ⟨gi, 5, none⟩ = some (.slice (some ⟨g', 0, none⟩) m c') ∧ Grafted g i b k pg L vs us root w (.returned root) (Y.setCell ⟨g, 5, none⟩ (.slice (some ⟨g'', 0, none⟩) (L - 1 + m) c''))) := by
    refine (HR.out W.drew hBW.drew).mono fun e Y h => ?_
    obtain ⟨g'', c'', he, h1, h2, h3, h4⟩ := HE.out W.drew Y e hBW.drew h
    refine ⟨g'', c'', he, h1, h2, ?_, ?_, ?_, h4⟩
    · rw [h3 ⟨w.heap.size, 0, none⟩ hlt (Nat.ne_of_gt Hpg.out)]
      exact c0
    · rw [h3 ⟨w.heap.size, 1, none⟩ hlt (Nat.ne_of_gt Hpg.out)]
      exact c1
    · rw [h3 ⟨gi, 5, none⟩ (World.block_lt_of_cell? W _ c6) hgip]
      exact c6
  clear hgip hW hBW hlt q4a q5a q6a HR HE HX0 HcA m1 m2 m3
  go_wp2_with fail
  refine wp_region_noPanic ?_
  refine wp_region_held_drew (S := (fun X => X.cell? ⟨w.heap.size, 0, none⟩ = some (.pointer (some ⟨g, 0, none⟩)) ∧ X.cell? ⟨w.heap.size, 1, none⟩ = some (.int .i64 i))) (by kernel_rfl) ?_ (fun hHeld => ?_)
  · go_keep
  refine wpAnyH_take (i := 0) (v := ?v0) (by simp only [List.getElem?_toArray, List.getElem?_cons_zero]; rfl) (by kernel_rfl) (by kernel_rfl) (by kernel_rfl) (fun _ _ _ h => h) (Or.inl ⟨by rfl, ?hy0⟩) (by assumption) ?rest0
  case hy0 =>
    intro w hSw
    try dsimp only at hSw
    go_simp
    try with_reducible rfl
  try simp only [Act.put, List.setIfInBounds_toArray, List.set_cons_zero, List.set_cons_succ]
  refine wpAnyH_take (i := 1) (v := ?v1) (by simp only [List.getElem?_toArray, List.getElem?_cons_succ, List.getElem?_cons_zero]; rfl) (by kernel_rfl) (by kernel_rfl) (by kernel_rfl) (fun _ _ _ h => h) (Or.inl ⟨by rfl, ?hy1⟩) (by assumption) ?rest1
  case hy1 =>
    intro w hSw
    try dsimp only at hSw
    go_simp
    try with_reducible rfl
  try simp only [Act.put, List.setIfInBounds_toArray, List.set_cons_zero, List.set_cons_succ]
  refine wpAnyH_take (i := 2) (v := ?v2) (by simp only [List.getElem?_toArray, List.getElem?_cons_succ, List.getElem?_cons_zero]; rfl) (by kernel_rfl) (by kernel_rfl) (by kernel_rfl) (fun _ _ _ h => h) (Or.inl ⟨by rfl, ?hy2⟩) (by assumption) ?rest2
  case hy2 =>
    intro w hSw
    try dsimp only at hSw
    go_simp
    try with_reducible rfl
  try simp only [Act.put, List.setIfInBounds_toArray, List.set_cons_zero, List.set_cons_succ]
  refine wpAnyH_take (i := 3) (v := ?v3) (by simp only [List.getElem?_toArray, List.getElem?_cons_succ, List.getElem?_cons_zero]; rfl) (by kernel_rfl) (by kernel_rfl) (by kernel_rfl) (fun _ _ _ h => h) (Or.inl ⟨by rfl, ?hy3⟩) (by assumption) ?rest3
  case hy3 =>
    intro w hSw
    try dsimp only at hSw
    go_simp
    try with_reducible rfl
  try simp only [Act.put, List.setIfInBounds_toArray, List.set_cons_zero, List.set_cons_succ]
  refine wpAnyH_take (i := 4) (v := ?v4) (by simp only [List.getElem?_toArray, List.getElem?_cons_succ, List.getElem?_cons_zero]; rfl) (by kernel_rfl) (by kernel_rfl) (by kernel_rfl) (fun _ _ _ h => h) (Or.inl ⟨by rfl, ?hy4⟩) (by assumption) ?rest4
  case hy4 =>
    intro w hSw
    try dsimp only at hSw
    go_simp
    try with_reducible rfl
  try simp only [Act.put, List.setIfInBounds_toArray, List.set_cons_zero, List.set_cons_succ]
  refine wpAnyH_take (i := 5) (v := ?v5) (by simp only [List.getElem?_toArray, List.getElem?_cons_succ, List.getElem?_cons_zero]; rfl) (by kernel_rfl) (by kernel_rfl) (by kernel_rfl) (fun _ _ _ h => h) (Or.inl ⟨by rfl, ?hy5⟩) (by assumption) ?rest5
  case hy5 =>
    intro w hSw
    try dsimp only at hSw
    go_simp
    try with_reducible rfl
  try simp only [Act.put, List.setIfInBounds_toArray, List.set_cons_zero, List.set_cons_succ]
  refine wpAnyH_take (i := 7) (v := ?v7) (by simp only [List.getElem?_toArray, List.getElem?_cons_succ, List.getElem?_cons_zero]; rfl) (by kernel_rfl) (by kernel_rfl) (by kernel_rfl) (fun _ _ _ h => h) (Or.inl ⟨by rfl, ?hy7⟩) (by assumption) ?rest7
  case hy7 =>
    intro w hSw
    try dsimp only at hSw
    go_simp
    try with_reducible rfl
  try simp only [Act.put, List.setIfInBounds_toArray, List.set_cons_zero, List.set_cons_succ]
  refine wpAnyH_take (i := 8) (v := ?v8) (by simp only [List.getElem?_toArray, List.getElem?_cons_succ, List.getElem?_cons_zero]; rfl) (by kernel_rfl) (by kernel_rfl) (by kernel_rfl) (fun _ _ _ h => h) (Or.inl ⟨by rfl, ?hy8⟩) (by assumption) ?rest8
  case hy8 =>
    intro w hSw
    try dsimp only at hSw
    go_simp
    try with_reducible rfl
  try simp only [Act.put, List.setIfInBounds_toArray, List.set_cons_zero, List.set_cons_succ]
  refine wpAnyH_take (i := 9) (v := ?v9) (by simp only [List.getElem?_toArray, List.getElem?_cons_succ, List.getElem?_cons_zero]; rfl) (by kernel_rfl) (by kernel_rfl) (by kernel_rfl) (fun _ _ _ h => h) (Or.inl ⟨by rfl, ?hy9⟩) (by assumption) ?rest9
  case hy9 =>
    intro w hSw
    try dsimp only at hSw
    go_simp
    try with_reducible rfl
  try simp only [Act.put, List.setIfInBounds_toArray, List.set_cons_zero, List.set_cons_succ]
  refine wpAnyH_take (i := 10) (v := ?v10) (by simp only [List.getElem?_toArray, List.getElem?_cons_succ, List.getElem?_cons_zero]; rfl) (by kernel_rfl) (by kernel_rfl) (by kernel_rfl) (fun _ _ _ h => h) (Or.inl ⟨by rfl, ?hy10⟩) (by assumption) ?rest10
  case hy10 =>
    intro w hSw
    try dsimp only at hSw
    go_simp
    try with_reducible rfl
  try simp only [Act.put, List.setIfInBounds_toArray, List.set_cons_zero, List.set_cons_succ]
  refine wpAnyH_take (i := 11) (v := ?v11) (by simp only [List.getElem?_toArray, List.getElem?_cons_succ, List.getElem?_cons_zero]; rfl) (by kernel_rfl) (by kernel_rfl) (by kernel_rfl) (fun _ _ _ h => h) (Or.inl ⟨by rfl, ?hy11⟩) (by assumption) ?rest11
  case hy11 =>
    intro w hSw
    try dsimp only at hSw
    go_simp
    try with_reducible rfl
  try simp only [Act.put, List.setIfInBounds_toArray, List.set_cons_zero, List.set_cons_succ]
  refine wpAnyH_take (i := 12) (v := ?v12) (by simp only [List.getElem?_toArray, List.getElem?_cons_succ, List.getElem?_cons_zero]; rfl) (by kernel_rfl) (by kernel_rfl) (by kernel_rfl) (fun _ _ _ h => h) (Or.inl ⟨by rfl, ?hy12⟩) (by assumption) ?rest12
  case hy12 =>
    intro w hSw
    try dsimp only at hSw
    go_simp
    try with_reducible rfl
  try simp only [Act.put, List.setIfInBounds_toArray, List.set_cons_zero, List.set_cons_succ]
  refine wpAnyH_take (i := 13) (v := ?v13) (by simp only [List.getElem?_toArray, List.getElem?_cons_succ, List.getElem?_cons_zero]; rfl) (by kernel_rfl) (by kernel_rfl) (by kernel_rfl) (fun _ _ _ h => h) (Or.inl ⟨by rfl, ?hy13⟩) (by assumption) ?rest13
  case hy13 =>
    intro w hSw
    try dsimp only at hSw
    go_simp
    try with_reducible rfl
  try simp only [Act.put, List.setIfInBounds_toArray, List.set_cons_zero, List.set_cons_succ]
  refine wpAnyH_take (i := 14) (v := ?v14) (by simp only [List.getElem?_toArray, List.getElem?_cons_succ, List.getElem?_cons_zero]; rfl) (by kernel_rfl) (by kernel_rfl) (by kernel_rfl) (fun _ _ _ h => h) (Or.inl ⟨by rfl, ?hy14⟩) (by assumption) ?rest14
  case hy14 =>
    intro w hSw
    try dsimp only at hSw
    go_simp
    try with_reducible rfl
  try simp only [Act.put, List.setIfInBounds_toArray, List.set_cons_zero, List.set_cons_succ]
  refine wpAnyH_ready (rs := [6, 15]) (by kernel_rfl) (by simp) ?_
  refine AllReadyH.cons (by simp only [List.getElem?_toArray, List.getElem?_cons_succ, List.getElem?_cons_zero]; rfl) (fun K hK => ?_) (AllReadyH.cons (by simp only [List.getElem?_toArray, List.getElem?_cons_succ, List.getElem?_cons_zero]; rfl) (fun K hK => ?_) AllReadyH.nil)
  · go_simp
    refine hK.out _ _ ?_ (fun hHeld6 => ?_)
    · go_keep
    clear hK K
    try simp only [Act.put, List.setIfInBounds_toArray, List.set_cons_zero, List.set_cons_succ]
    refine wpAnyH_ready (rs := [15]) (by kernel_rfl) (by simp) ?_
    refine AllReadyH.cons (by simp only [List.getElem?_toArray, List.getElem?_cons_succ, List.getElem?_cons_zero]; rfl) (fun K hK => ?_) AllReadyH.nil
    go_simp
    refine hK.out _ _ ?_ (fun hHeld15 => ?_)
    · go_keep
    clear hK K
    try simp only [Act.put, List.setIfInBounds_toArray, List.set_cons_zero, List.set_cons_succ]
    refine wpAnyH_ready (rs := [16]) (by kernel_rfl) (by simp) ?_
    refine AllReadyH.cons (by simp only [List.getElem?_toArray, List.getElem?_cons_succ, List.getElem?_cons_zero]; rfl) (fun K hK => ?_) AllReadyH.nil
    go_simp
    go_at_call 61
    refine HC.out.mono ?_
    rintro e Y ⟨g'', c'', rfl, hy5, hyf, hy0, hy1, hy6, hG⟩
    have HG : Hid (Grafted g i b k pg L vs us root w (.returned root) (Y.setCell ⟨g, 5, none⟩ (.slice (some ⟨g'', 0, none⟩) (L - 1 + m) c''))) := hG
    clear hG
    go_wp2_with fail
    refine hK.out _ _ ?_ (fun hHeld16 => ?_)
    · go_keep
    clear hK K
    try simp only [Act.put, List.setIfInBounds_toArray, List.set_cons_zero, List.set_cons_succ]
    refine wpAnyH_take (i := 17) (v := ?v17x15) (by simp only [List.getElem?_toArray, List.getElem?_cons_succ, List.getElem?_cons_zero]; rfl) (by kernel_rfl) (by kernel_rfl) (by kernel_rfl) (fun _ _ _ h => h) (Or.inl ⟨by rfl, ?hy17x15⟩) (by assumption) ?rest17x15
    case hy17x15 =>
      intro w hSw
      try dsimp only at hSw
      go_simp
      try with_reducible rfl
    try simp only [Act.put, List.setIfInBounds_toArray, List.set_cons_zero, List.set_cons_succ]
    refine wpAnyH_take (i := 18) (v := ?v18x15) (by simp only [List.getElem?_toArray, List.getElem?_cons_succ, List.getElem?_cons_zero]; rfl) (by kernel_rfl) (by kernel_rfl) (by kernel_rfl) (fun _ _ _ h => h) (Or.inl ⟨by rfl, ?hy18x15⟩) (by assumption) ?rest18x15
    case hy18x15 =>
      intro w hSw
      try dsimp only at hSw
      go_simp
      try with_reducible rfl
    try simp only [Act.put, List.setIfInBounds_toArray, List.set_cons_zero, List.set_cons_succ]
    refine wpAnyH_ready (rs := [19]) (by kernel_rfl) (by simp) ?_
    refine AllReadyH.cons (by simp only [List.getElem?_toArray, List.getElem?_cons_succ, List.getElem?_cons_zero]; rfl) (fun K hK => ?_) AllReadyH.nil
    go_simp
    refine hK.out _ _ ?_ (fun hHeld19 => ?_)
    · go_keep
    clear hK K
    try simp only [Act.put, List.setIfInBounds_toArray, List.set_cons_zero, List.set_cons_succ]
    refine wpAnyH_done (by kernel_rfl) ?_ _
    refine NoPanic.normal ?_
    go_wp2
    go_ret
    exact HG.out
  · go_simp
    refine hK.out _ _ ?_ (fun hHeld15 => ?_)
    · go_keep
    clear hK K
    try simp only [Act.put, List.setIfInBounds_toArray, List.set_cons_zero, List.set_cons_succ]
    refine wpAnyH_ready (rs := [6]) (by kernel_rfl) (by simp) ?_
    refine AllReadyH.cons (by simp only [List.getElem?_toArray, List.getElem?_cons_succ, List.getElem?_cons_zero]; rfl) (fun K hK => ?_) AllReadyH.nil
    go_simp
    refine hK.out _ _ ?_ (fun hHeld6 => ?_)
    · go_keep
    clear hK K
    try simp only [Act.put, List.setIfInBounds_toArray, List.set_cons_zero, List.set_cons_succ]
    refine wpAnyH_ready (rs := [16]) (by kernel_rfl) (by simp) ?_
    refine AllReadyH.cons (by simp only [List.getElem?_toArray, List.getElem?_cons_succ, List.getElem?_cons_zero]; rfl) (fun K hK => ?_) AllReadyH.nil
    go_simp
    go_at_call 61
    refine HC.out.mono ?_
    rintro e Y ⟨g'', c'', rfl, hy5, hyf, hy0, hy1, hy6, hG⟩
    have HG : Hid (Grafted g i b k pg L vs us root w (.returned root) (Y.setCell ⟨g, 5, none⟩ (.slice (some ⟨g'', 0, none⟩) (L - 1 + m) c''))) := hG
    clear hG
    go_wp2_with fail
    refine hK.out _ _ ?_ (fun hHeld16 => ?_)
    · go_keep
    clear hK K
    try simp only [Act.put, List.setIfInBounds_toArray, List.set_cons_zero, List.set_cons_succ]
    refine wpAnyH_take (i := 17) (v := ?v17x6) (by simp only [List.getElem?_toArray, List.getElem?_cons_succ, List.getElem?_cons_zero]; rfl) (by kernel_rfl) (by kernel_rfl) (by kernel_rfl) (fun _ _ _ h => h) (Or.inl ⟨by rfl, ?hy17x6⟩) (by assumption) ?rest17x6
    case hy17x6 =>
      intro w hSw
      try dsimp only at hSw
      go_simp
      try with_reducible rfl
    try simp only [Act.put, List.setIfInBounds_toArray, List.set_cons_zero, List.set_cons_succ]
    refine wpAnyH_take (i := 18) (v := ?v18x6) (by simp only [List.getElem?_toArray, List.getElem?_cons_succ, List.getElem?_cons_zero]; rfl) (by kernel_rfl) (by kernel_rfl) (by kernel_rfl) (fun _ _ _ h => h) (Or.inl ⟨by rfl, ?hy18x6⟩) (by assumption) ?rest18x6
    case hy18x6 =>
      intro w hSw
      try dsimp only at hSw
      go_simp
      try with_reducible rfl
    try simp only [Act.put, List.setIfInBounds_toArray, List.set_cons_zero, List.set_cons_succ]
    refine wpAnyH_ready (rs := [19]) (by kernel_rfl) (by simp) ?_
    refine AllReadyH.cons (by simp only [List.getElem?_toArray, List.getElem?_cons_succ, List.getElem?_cons_zero]; rfl) (fun K hK => ?_) AllReadyH.nil
    go_simp
    refine hK.out _ _ ?_ (fun hHeld19 => ?_)
    · go_keep
    clear hK K
    try simp only [Act.put, List.setIfInBounds_toArray, List.set_cons_zero, List.set_cons_succ]
    refine wpAnyH_done (by kernel_rfl) ?_ _
    refine NoPanic.normal ?_
    go_wp2
    go_ret
    exact HG.out

end Go.Proofs.Ytnepemlagnnngaa
