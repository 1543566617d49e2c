/-
  The law's own functions: called.
-/
import Derived.Test.YtkpnolkbheoocaaQStepM
import Derived.WalkKit
import Derived.Deep.RegionLaw
import Derived.Deep.RegionHeld3
namespace Go.Proofs.Ytkpnolkbheoocaa
open Go.RowKit
set_option linter.unusedVariables false
set_option maxRecDepth 100000

def errQ (q : Qs) (o : OpD) : Int := if o.k = 0 then putE q [o.line] else if o.k = 1 then putE q o.lines else if o.k = 2 then outE q o.pane o.tick o.lines else if o.k = 3 then endE q o.line else 0
def drnQ (q : Qs) (o : OpD) : List UInt8 := if o.k = 0 then [] else if o.k = 1 then [] else if o.k = 2 then [] else if o.k = 3 then [] else q.bs.take o.n.toNat
theorem Went.more {w w' w2 : World} {F : List Nat} {b : Nat} {q : Qs} (h : Went w w' F b q) (hb : Below w'.heap.size w' w2) : Went w w2 F b q := by
  obtain ⟨F', h1, h2, h3⟩ := h
  exact ⟨F', h1.below hb, h2.trans (.of hb), h3⟩
/-- lists, and what it leaves. -/
theorem lists_off {W Y : World} {F : List Nat} {v : Value} {ls : List (List UInt8)} (hF : ∀ k ∈ F, k < W.heap.size) (hs : Strs W v ls) (hb : Below W.heap.size W Y) :
    Calls Try.prog 22 #[v] Y fun e w1 => ∃ v', e = .returned v' ∧ Below W.heap.size W w1 ∧ Strs w1 v' ls ∧ ∀ g, v'.ownBlock = some g → g ∉ F := by
  have hs2 := hs.below hb
  refine (lists_any hs2).mono ?_
  rintro e w1 ⟨v', rfl, hm⟩
  obtain ⟨ad, cap, _, h1, _, _, h4, _⟩ := hs
  refine ⟨v', rfl, hb.trans (hm.below.mono hb.size), hm.row.strs h1 h4, fun g hg hh => ?_⟩
  have := hm.young g hg
  have := hF g hh
  have := hb.size
  omega

set_option maxHeartbeats 4000000 in
theorem called_0 {W : World} {F : List Nat} {b : Nat} {q : Qs} (o : OpD) (h : QAt W F b q) (ho : o.Ok W) (hk : o.k = 0) :
    Calls Try.prog 8 #[.pointer (some ⟨b, 0, none⟩), .agg o.vals] W fun x w' => x = .returned (.tuple #[.int .i64 (errQ q o), .string (str (drnQ q o))]) ∧ Went W w' F b (stepQ q o) := by
  obtain ⟨k, line, lv, lines, pane, tick, n⟩ := o
  obtain ⟨al, nl, cl, hlv, hnl, hnl1, -⟩ := ho.strs.shape
  simp only at hk hlv hnl ho
  subst hlv hk
  obtain ⟨Q2, hQ2⟩ : ∃ Q2, stepQ q ⟨0, line, .slice al nl cl, lines, pane, tick, n⟩ = Q2 := ⟨_, rfl⟩
  obtain ⟨EE, hEE⟩ : ∃ EE, errQ q ⟨0, line, .slice al nl cl, lines, pane, tick, n⟩ = EE := ⟨_, rfl⟩
  obtain ⟨tx, htx⟩ : ∃ tx, str (drnQ q ⟨0, line, .slice al nl cl, lines, pane, tick, n⟩) = tx := ⟨_, rfl⟩
  obtain ⟨z, hz⟩ : ∃ z, str line = z := ⟨_, rfl⟩
  have HLs : Hid (∀ Y, Below W.heap.size W Y → Calls Try.prog 22 #[.slice al nl cl] Y fun e w1 => ∃ v', e = .returned v' ∧ Below W.heap.size W w1 ∧ Strs w1 v' lines ∧ ∀ g, v'.ownBlock = some g → g ∉ F) := fun Y hY => lists_off h.lt ho.strs hY
  have HC : Hid (∀ Y, Below W.heap.size W Y → Calls Try.prog 20 #[.pointer (some ⟨b, 0, none⟩), .string z] Y fun x w' => x = .returned (.int .i64 EE) ∧ Went W w' F b Q2) := fun Y hY => by
    rw [← hz, ← hEE, ← hQ2]
    exact (put_any (h.below hY) ho.line).mono fun x w' k => ⟨by rw [k.1]; rfl, Went.trans hY k.2⟩
  have htx0 : tx = .empty := htx.symm.trans rfl
  have HB : Hid (Below W.heap.size W (W.alloc (.cells #[.int .i64 0, .string z, .slice al nl cl, .int .i64 pane, .int .i64 tick, .int .i64 n] 35))) := (Below.refl _ _).alloc (Nat.le_refl _) _
  rw [hQ2, hEE, htx]
  unfold OpD.vals
  simp only
  rw [hz]
  clear h ho hQ2 hEE htx hz
  go_enter Try.func8, Try.ntmps8
  go_wp2_with fail
  subst htx0
  refine (HC.out _ HB.out).mono ?_
  rintro x w2 ⟨rfl, hw⟩
  have HW := hidK hw
  clear hw
  go_wp2_with fail
  all_goals refine bodyPost_ret (v := .tuple #[.int .i64 EE, .string .empty]) (by simp [results, Try.results8, go_sem] <;> rfl) rfl ?_
  all_goals exact ⟨rfl, HW.out⟩

set_option maxHeartbeats 4000000 in
theorem called_3 {W : World} {F : List Nat} {b : Nat} {q : Qs} (o : OpD) (h : QAt W F b q) (ho : o.Ok W) (hk : o.k = 3) :
    Calls Try.prog 8 #[.pointer (some ⟨b, 0, none⟩), .agg o.vals] W fun x w' => x = .returned (.tuple #[.int .i64 (errQ q o), .string (str (drnQ q o))]) ∧ Went W w' F b (stepQ q o) := by
  obtain ⟨k, line, lv, lines, pane, tick, n⟩ := o
  obtain ⟨al, nl, cl, hlv, hnl, hnl1, -⟩ := ho.strs.shape
  simp only at hk hlv hnl ho
  subst hlv hk
  obtain ⟨Q2, hQ2⟩ : ∃ Q2, stepQ q ⟨3, line, .slice al nl cl, lines, pane, tick, n⟩ = Q2 := ⟨_, rfl⟩
  obtain ⟨EE, hEE⟩ : ∃ EE, errQ q ⟨3, line, .slice al nl cl, lines, pane, tick, n⟩ = EE := ⟨_, rfl⟩
  obtain ⟨tx, htx⟩ : ∃ tx, str (drnQ q ⟨3, line, .slice al nl cl, lines, pane, tick, n⟩) = tx := ⟨_, rfl⟩
  obtain ⟨z, hz⟩ : ∃ z, str line = z := ⟨_, rfl⟩
  have HLs : Hid (∀ Y, Below W.heap.size W Y → Calls Try.prog 22 #[.slice al nl cl] Y fun e w1 => ∃ v', e = .returned v' ∧ Below W.heap.size W w1 ∧ Strs w1 v' lines ∧ ∀ g, v'.ownBlock = some g → g ∉ F) := fun Y hY => lists_off h.lt ho.strs hY
  have HC : Hid (∀ Y, Below W.heap.size W Y → Calls Try.prog 24 #[.pointer (some ⟨b, 0, none⟩), .string z] Y fun x w' => x = .returned (.int .i64 EE) ∧ Went W w' F b Q2) := fun Y hY => by
    rw [← hz, ← hEE, ← hQ2]
    exact (end_any (h.below hY) ho.line).mono fun x w' k => ⟨by rw [k.1]; rfl, Went.trans hY k.2⟩
  have htx0 : tx = .empty := htx.symm.trans rfl
  have HB : Hid (Below W.heap.size W (W.alloc (.cells #[.int .i64 3, .string z, .slice al nl cl, .int .i64 pane, .int .i64 tick, .int .i64 n] 35))) := (Below.refl _ _).alloc (Nat.le_refl _) _
  rw [hQ2, hEE, htx]
  unfold OpD.vals
  simp only
  rw [hz]
  clear h ho hQ2 hEE htx hz
  go_enter Try.func8, Try.ntmps8
  go_wp2_with fail
  subst htx0
  refine (HC.out _ HB.out).mono ?_
  rintro x w2 ⟨rfl, hw⟩
  have HW := hidK hw
  clear hw
  go_wp2_with fail
  all_goals refine bodyPost_ret (v := .tuple #[.int .i64 EE, .string .empty]) (by simp [results, Try.results8, go_sem] <;> rfl) rfl ?_
  all_goals exact ⟨rfl, HW.out⟩

set_option maxHeartbeats 4000000 in
theorem called_4 {W : World} {F : List Nat} {b : Nat} {q : Qs} (o : OpD) (h : QAt W F b q) (ho : o.Ok W) (hk : ¬ o.k = 0 ∧ ¬ o.k = 1 ∧ ¬ o.k = 2 ∧ ¬ o.k = 3) :
    Calls Try.prog 8 #[.pointer (some ⟨b, 0, none⟩), .agg o.vals] W fun x w' => x = .returned (.tuple #[.int .i64 (errQ q o), .string (str (drnQ q o))]) ∧ Went W w' F b (stepQ q o) := by
  obtain ⟨k, line, lv, lines, pane, tick, n⟩ := o
  obtain ⟨al, nl, cl, hlv, hnl, hnl1, -⟩ := ho.strs.shape
  simp only at hk hlv hnl ho
  subst hlv
  obtain ⟨Q2, hQ2⟩ : ∃ Q2, stepQ q ⟨k, line, .slice al nl cl, lines, pane, tick, n⟩ = Q2 := ⟨_, rfl⟩
  obtain ⟨EE, hEE⟩ : ∃ EE, errQ q ⟨k, line, .slice al nl cl, lines, pane, tick, n⟩ = EE := ⟨_, rfl⟩
  obtain ⟨tx, htx⟩ : ∃ tx, str (drnQ q ⟨k, line, .slice al nl cl, lines, pane, tick, n⟩) = tx := ⟨_, rfl⟩
  obtain ⟨z, hz⟩ : ∃ z, str line = z := ⟨_, rfl⟩
  have HLs : Hid (∀ Y, Below W.heap.size W Y → Calls Try.prog 22 #[.slice al nl cl] Y fun e w1 => ∃ v', e = .returned v' ∧ Below W.heap.size W w1 ∧ Strs w1 v' lines ∧ ∀ g, v'.ownBlock = some g → g ∉ F) := fun Y hY => lists_off h.lt ho.strs hY
  have HC : Hid (∀ Y, Below W.heap.size W Y → Calls Try.prog 11 #[.pointer (some ⟨b, 0, none⟩), .int .i64 n] Y fun x w' => x = .returned (.string tx) ∧ Went W w' F b Q2) := fun Y hY => by
    have e1 : stepQ q ⟨k, line, .slice al nl cl, lines, pane, tick, n⟩ = drainQ q n.toNat := by unfold stepQ; rw [if_neg hk.1, if_neg hk.2.1, if_neg hk.2.2.1, if_neg hk.2.2.2]
    have e2 : drnQ q ⟨k, line, .slice al nl cl, lines, pane, tick, n⟩ = q.bs.take n.toNat := by unfold drnQ; rw [if_neg hk.1, if_neg hk.2.1, if_neg hk.2.2.1, if_neg hk.2.2.2]
    rw [← htx, ← hQ2, e1, e2]
    exact (drain_any n (h.below hY) ho.n.1 ho.n.2).mono fun x w' k => ⟨by rw [k.1], Went.trans hY k.2⟩
  have htx0 : EE = 0 := by rw [← hEE]; unfold errQ; rw [if_neg hk.1, if_neg hk.2.1, if_neg hk.2.2.1, if_neg hk.2.2.2]
  have HB : Hid (Below W.heap.size W (W.alloc (.cells #[.int .i64 k, .string z, .slice al nl cl, .int .i64 pane, .int .i64 tick, .int .i64 n] 35))) := (Below.refl _ _).alloc (Nat.le_refl _) _
  rw [hQ2, hEE, htx]
  unfold OpD.vals
  simp only
  rw [hz]
  clear h ho hQ2 hEE htx hz
  obtain ⟨k0, k1, k2, k3⟩ := hk
  go_enter Try.func8, Try.ntmps8
  go_wp2_with fail
  subst htx0
  refine (HC.out _ HB.out).mono ?_
  rintro x w2 ⟨rfl, hw⟩
  have HW := hidK hw
  clear hw
  go_wp2_with fail
  all_goals refine bodyPost_ret (v := .tuple #[.int .i64 0, .string tx]) (by simp [results, Try.results8, go_sem] <;> rfl) rfl ?_
  all_goals exact ⟨rfl, HW.out⟩

set_option maxHeartbeats 4000000 in
theorem called_1 {W : World} {F : List Nat} {b : Nat} {q : Qs} (o : OpD) (h : QAt W F b q) (ho : o.Ok W) (hk : o.k = 1) :
    Calls Try.prog 8 #[.pointer (some ⟨b, 0, none⟩), .agg o.vals] W fun x w' => x = .returned (.tuple #[.int .i64 (errQ q o), .string (str (drnQ q o))]) ∧ Went W w' F b (stepQ q o) := by
  obtain ⟨k, line, lv, lines, pane, tick, n⟩ := o
  obtain ⟨al, nl, cl, hlv, hnl, hnl1, -⟩ := ho.strs.shape
  simp only at hk hlv hnl ho
  subst hlv hk
  obtain ⟨Q2, hQ2⟩ : ∃ Q2, stepQ q ⟨1, line, .slice al nl cl, lines, pane, tick, n⟩ = Q2 := ⟨_, rfl⟩
  obtain ⟨EE, hEE⟩ : ∃ EE, errQ q ⟨1, line, .slice al nl cl, lines, pane, tick, n⟩ = EE := ⟨_, rfl⟩
  obtain ⟨tx, htx⟩ : ∃ tx, str (drnQ q ⟨1, line, .slice al nl cl, lines, pane, tick, n⟩) = tx := ⟨_, rfl⟩
  obtain ⟨z, hz⟩ : ∃ z, str line = z := ⟨_, rfl⟩
  have HLs : Hid (∀ Y, Below W.heap.size W Y → Calls Try.prog 22 #[.slice al nl cl] Y fun e w1 => ∃ v', e = .returned v' ∧ Below W.heap.size W w1 ∧ Strs w1 v' lines ∧ ∀ g, v'.ownBlock = some g → g ∉ F) := fun Y hY => lists_off h.lt ho.strs hY
  have HC : Hid (∀ Y v', Below W.heap.size W Y → Strs Y v' lines → (∀ g, v'.ownBlock = some g → g ∉ F) → Calls Try.prog 21 #[.pointer (some ⟨b, 0, none⟩), v'] Y fun x w' => x = .returned (.int .i64 EE) ∧ Went W w' F b Q2) := fun Y v' hY hs hoff => by
    rw [← hEE, ← hQ2]
    exact (putAll_any (h.below hY) hs hoff).mono fun x w' k => ⟨by rw [k.1]; rfl, Went.trans hY k.2⟩
  have htx0 : tx = .empty := htx.symm.trans rfl
  have HB : Hid (Below W.heap.size W (W.alloc (.cells #[.int .i64 1, .string z, .slice al nl cl, .int .i64 pane, .int .i64 tick, .int .i64 n] 35))) := (Below.refl _ _).alloc (Nat.le_refl _) _
  rw [hQ2, hEE, htx]
  unfold OpD.vals
  simp only
  rw [hz]
  clear h ho hQ2 hEE htx hz
  go_enter Try.func8, Try.ntmps8
  go_wp2_with fail
  subst htx0
  refine (HLs.out _ HB.out).mono ?_
  rintro x w1 ⟨v', rfl, hb1, hs1, hf1⟩
  have HP := hidK (HC.out w1 v' hb1 hs1 hf1)
  clear hb1 hs1 hf1
  go_wp2_with fail
  refine HP.out.mono ?_
  rintro x w2 ⟨rfl, hw⟩
  have HW := hidK hw
  clear hw
  go_wp2_with fail
  all_goals refine bodyPost_ret (v := .tuple #[.int .i64 EE, .string .empty]) (by simp [results, Try.results8, go_sem] <;> rfl) rfl ?_
  all_goals exact ⟨rfl, HW.out⟩

set_option maxHeartbeats 4000000 in
theorem called_2 {W : World} {F : List Nat} {b : Nat} {q : Qs} (o : OpD) (h : QAt W F b q) (ho : o.Ok W) (hk : o.k = 2) :
    Calls Try.prog 8 #[.pointer (some ⟨b, 0, none⟩), .agg o.vals] W fun x w' => x = .returned (.tuple #[.int .i64 (errQ q o), .string (str (drnQ q o))]) ∧ Went W w' F b (stepQ q o) := by
  obtain ⟨k, line, lv, lines, pane, tick, n⟩ := o
  obtain ⟨al, nl, cl, hlv, hnl, hnl1, -⟩ := ho.strs.shape
  simp only at hk hlv hnl ho
  subst hlv hk
  obtain ⟨Q2, hQ2⟩ : ∃ Q2, stepQ q ⟨2, line, .slice al nl cl, lines, pane, tick, n⟩ = Q2 := ⟨_, rfl⟩
  obtain ⟨EE, hEE⟩ : ∃ EE, errQ q ⟨2, line, .slice al nl cl, lines, pane, tick, n⟩ = EE := ⟨_, rfl⟩
  obtain ⟨tx, htx⟩ : ∃ tx, str (drnQ q ⟨2, line, .slice al nl cl, lines, pane, tick, n⟩) = tx := ⟨_, rfl⟩
  obtain ⟨z, hz⟩ : ∃ z, str line = z := ⟨_, rfl⟩
  have HLs : Hid (∀ Y, Below W.heap.size W Y → Calls Try.prog 22 #[.slice al nl cl] Y fun e w1 => ∃ v', e = .returned v' ∧ Below W.heap.size W w1 ∧ Strs w1 v' lines ∧ ∀ g, v'.ownBlock = some g → g ∉ F) := fun Y hY => lists_off h.lt ho.strs hY
  have HC : Hid (∀ Y v', Below W.heap.size W Y → Strs Y v' lines → (∀ g, v'.ownBlock = some g → g ∉ F) → Calls Try.prog 23 #[.pointer (some ⟨b, 0, none⟩), .int .i64 pane, .int .i64 tick, v'] Y fun x w' => x = .returned (.int .i64 EE) ∧ Went W w' F b Q2) := fun Y v' hY hs hoff => by
    rw [← hEE, ← hQ2]
    exact (out_any pane tick ho.tick.2 (h.below hY) hs hoff).mono fun x w' k => ⟨by rw [k.1]; rfl, Went.trans hY k.2⟩
  have htx0 : tx = .empty := htx.symm.trans rfl
  have HB : Hid (Below W.heap.size W (W.alloc (.cells #[.int .i64 2, .string z, .slice al nl cl, .int .i64 pane, .int .i64 tick, .int .i64 n] 35))) := (Below.refl _ _).alloc (Nat.le_refl _) _
  have HL2 : Hid (∀ Y, Below (W.alloc (.cells #[.int .i64 2, .string z, .slice al nl cl, .int .i64 pane, .int .i64 tick, .int .i64 n] 35)).heap.size (W.alloc (.cells #[.int .i64 2, .string z, .slice al nl cl, .int .i64 pane, .int .i64 tick, .int .i64 n] 35)) Y → Calls Try.prog 22 #[.slice al nl cl] Y fun e w1 => ∃ v', e = .returned v' ∧ w1.cell? ⟨W.heap.size, 3, none⟩ = some (.int .i64 pane) ∧ w1.cell? ⟨W.heap.size, 4, none⟩ = some (.int .i64 tick) ∧ Calls Try.prog 23 #[.pointer (some ⟨b, 0, none⟩), .int .i64 pane, .int .i64 tick, v'] w1 fun x w' => x = .returned (.int .i64 EE) ∧ Went W w' F b Q2) := fun Y hY => by
    refine (lists_off (fun k hk => Nat.lt_of_lt_of_le (h.lt k hk) HB.out.size) (ho.strs.below HB.out) hY).mono ?_
    rintro e w1 ⟨v', rfl, k1, k2, k3⟩
    have hbx := heap_alloc_new W (.cells #[.int .i64 2, .string z, .slice al nl cl, .int .i64 pane, .int .i64 tick, .int .i64 n] 35)
    have hb1 := (k1.block _ (Array.getElem?_eq_some_iff.1 hbx).1).trans hbx
    exact ⟨v', rfl, cell_atT hb1 3, cell_atT hb1 4, HC.out w1 v' (HB.out.trans (k1.mono HB.out.size)) k2 k3⟩
  rw [hQ2, hEE, htx]
  unfold OpD.vals
  simp only
  rw [hz]
  clear h ho hQ2 hEE htx hz
  go_enter Try.func8, Try.ntmps8
  go_wp2_with fail
  subst htx0
  go_region_law (try go_simp; first
    | (go_at_call 22; refine (HL2.out _ (by first | exact (Below.refl _ _).drew | exact Below.refl _ _)).mono ?_; rintro x w1 ⟨v', rfl, o3c, o4c, hp1⟩; have HP := hidK hp1; clear hp1)
    | (go_at_call 23; refine HP.out.mono ?_; rintro x w2 ⟨rfl, hw⟩; have HW := hidK hw; clear hw))
  all_goals (
    go_wp2_with fail
    refine bodyPost_ret (v := .tuple #[.int .i64 EE, .string .empty]) (by simp [results, Try.results8, go_sem] <;> rfl) rfl ?_
    exact ⟨rfl, HW.out⟩)

end Go.Proofs.Ytkpnolkbheoocaa
