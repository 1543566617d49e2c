/-
  Plans: the statements' own comparison of layouts; what must come whatever is asked.
  Plans: what must come whatever is asked.
-/
import Derived.Test.YtglncninkocgaabGreatDoorCZA
import Derived.Test.YtglncninkocgaabGreatDoorCF
namespace Go.Proofs.YtglncninkocgaabGreatDoor
open Go.RowKit
set_option linter.unusedVariables false
set_option maxRecDepth 100000

theorem same_lens (a1 a2 : Option Addr) (n1 c1 n2 c2 : Nat) (w : World) (hn : n1 ≠ n2) :
    Calls Tryz.prog 9 #[.slice a1 n1 c1, .slice a2 n2 c2] w fun e w' => e = .returned (.bool false) ∧ w = w' := by
  have h : ((n1 : Int) != n2) = true := by simp; omega
  clear hn
  go_enter Tryz.func9, Tryz.ntmps9
  go_wp2
  go_ret
  exact ⟨rfl, rfl⟩
theorem same_none (a1 a2 : Option Addr) (c1 c2 : Nat) (w : World) :
    Calls Tryz.prog 9 #[.slice a1 0 c1, .slice a2 0 c2] w fun e w' => e = .returned (.bool true) ∧ w = w' := by
  go_enter Tryz.func9, Tryz.ntmps9
  go_wp2
  go_loopw [5] (fun v wr => v = .int .i64 0 ∧ w = wr) (fun _ _ => 0)
  case atStart => exact ⟨rfl, rfl⟩
  case round =>
    obtain ⟨rfl, rfl⟩ := hrel
    go_wp2
    go_ret
    exact ⟨rfl, rfl⟩

set_option maxHeartbeats 1000000 in
theorem same_some5 (b1 o1 c1 b2 o2 c2 n : Nat) (l1 l2 : List CellV) (w : World) (h1 : SeenIn w b1 o1 l1) (h2 : SeenIn w b2 o2 l2) (hn1 : l1.length = n) (hn2 : l2.length = n) (hn : n ≤ 4611686018427387904) :
    Calls Tryz.prog 9 #[.slice (some ⟨b1, o1, none⟩) n c1, .slice (some ⟨b2, o2, none⟩) n c2] w fun e w' => e = .returned (.bool (decide (l1 = l2))) ∧ Below w.heap.size w w' := by
  have H1 : Hid (SeenIn w b1 o1 l1) := h1
  have H2 : Hid (SeenIn w b2 o2 l2) := h2
  have HN1 : Hid (l1.length = n) := hn1
  have HN2 : Hid (l2.length = n) := hn2
  obtain ⟨rr, hrr⟩ : ∃ r, decide (l1 = l2) = r := ⟨_, rfl⟩
  rw [hrr]
  have HR : Hid (decide (l1 = l2) = rr) := hrr
  clear h1 h2 hn1 hn2 hrr
  go_enter Tryz.func9, Tryz.ntmps9
  go_wp2
  go_loopw [5] (fun v wr => ∃ i : Nat, i ≤ n ∧ v = .int .i64 i ∧ Hid (l1.take i = l2.take i) ∧ Hid (Below w.heap.size w wr)) (fun v _ => n - (intOf v).toNat)
  case atStart => exact ⟨0, Nat.zero_le _, rfl, by simp [Hid], Below.refl _ _⟩
  case round =>
    obtain ⟨i, hi, rfl, HT, HB⟩ := hrel
    by_cases hlt : i < n
    · obtain ⟨x, hx⟩ : ∃ x, l1[i]? = some x := ⟨_, List.getElem?_eq_getElem (by rw [HN1.out]; exact hlt)⟩
      obtain ⟨y, hy⟩ : ∃ y, l2[i]? = some y := ⟨_, List.getElem?_eq_getElem (by rw [HN2.out]; exact hlt)⟩
      obtain ⟨q0, q1, q2, q3, q4, q5, q6⟩ := (H1.out.below HB.out) i x hx
      obtain ⟨p0, p1, p2, p3, p4, p5, p6⟩ := (H2.out.below HB.out) i y hy
      obtain ⟨r, hr⟩ : ∃ r, ceEq x y = r := ⟨_, rfl⟩
      have hEq : ∀ W : World, (Op.equalIn 10000 36 (.agg #[.int .i64 x.depth, .int .i64 x.kind, .int .i64 x.x, .int .i64 x.y, .int .i64 x.w, .int .i64 x.h, .int .i64 x.p]) (.agg #[.int .i64 y.depth, .int .i64 y.kind, .int .i64 y.x, .int .i64 y.y, .int .i64 y.w, .int .i64 y.h, .int .i64 y.p])).run Tryz.prog W = .ok r W := fun W => by
        have := eqCe x y W
        rw [hr] at this
        exact this
      have HE : Hid (ceEq x y = r) := hr
      have HX : Hid (l1[i]? = some x) := hx
      have HY : Hid (l2[i]? = some y) := hy
      clear hr hx hy
      cases r
      · have HF : Hid (rr = false) := HR.out.symm.trans (decide_eq_false (ne_of_at HX.out HY.out fun e => by rw [(ceEq_iff x y).2 e] at HE; cases HE.out))
        go_wp2
        go_quiet (fail)
        go_wp2
        go_ret
        exact ⟨by rw [HF.out]; rfl, below_drewN HB.out _⟩
      · go_wp2
        go_quiet (fail)
        go_wp2
        go_roundw
        case rel => exact ⟨i + 1, by omega, by go_num, take_succ_eq HT.out HX.out HY.out ((ceEq_iff x y).1 HE.out), below_drewN HB.out _⟩
        case measure => simp [intOf]; omega
    · have HF : Hid (rr = true) := HR.out.symm.trans (decide_eq_true (by
        have h := HT.out
        rwa [List.take_of_length_le (by rw [HN1.out]; omega), List.take_of_length_le (by rw [HN2.out]; omega)] at h))
      go_wp2
      go_ret
      exact ⟨by rw [HF.out]; rfl, HB.out⟩


theorem same_any5 (v1 v2 : Value) (l1 l2 : List CellV) (w : World) (h1 : CellsIn w v1 l1) (h2 : CellsIn w v2 l2) (hn : l1.length ≤ 4611686018427387904) :
    Calls Tryz.prog 9 #[v1, v2] w fun e w' => e = .returned (.bool (decide (l1 = l2))) ∧ Below w.heap.size w w' := by
  by_cases hl : l1.length = l2.length
  · by_cases h0 : l1 = []
    · subst h0
      have h00 : l2 = [] := List.length_eq_zero_iff.1 hl.symm
      subst h00
      obtain ⟨a1, c1, rfl⟩ := h1.nil
      obtain ⟨a2, c2, rfl⟩ := h2.nil
      exact (same_none a1 a2 c1 c2 w).mono fun e w' h => ⟨by rw [h.1]; simp, h.2 ▸ Below.refl _ _⟩
    · have h02 : l2 ≠ [] := by rintro rfl; exact h0 (List.length_eq_zero_iff.1 hl)
      obtain ⟨b1, o1, c1, rfl, _, k1⟩ := h1.seen h0
      obtain ⟨b2, o2, c2, rfl, _, k2⟩ := h2.seen h02
      rw [← hl]
      exact same_some5 b1 o1 c1 b2 o2 c2 l1.length l1 l2 w k1 k2 rfl hl.symm hn
  · obtain ⟨a1, c1, rfl⟩ := h1.length
    obtain ⟨a2, c2, rfl⟩ := h2.length
    refine (same_lens a1 a2 _ c1 _ c2 w hl).mono fun e w' h => ⟨?_, h.2 ▸ Below.refl _ _⟩
    rw [h.1, decide_eq_false]
    intro e
    exact hl (congrArg _ e)



mutual
theorem nums_of : ∀ (t : Tree) (d : Int), t.sound = true → t.kinds → (∀ c ∈ t.tell d, CellFit c) → t.nums
  | .leaf b p, d, hs, hk, hf => by
    have h := hf ⟨d, 1, b.x, b.y, b.w, b.h, p⟩ (List.mem_cons_self ..)
    exact ⟨⟨h.x, h.y, h.w, h.h⟩, h.p⟩
  | .split b k ts, d, hs, hk, hf => by
    have h := hf ⟨d, k, b.x, b.y, b.w, b.h, 0⟩ (List.mem_cons_self ..)
    unfold Tree.sound at hs
    simp only [Bool.and_eq_true, decide_eq_true_eq] at hs
    refine ⟨⟨h.x, h.y, h.w, h.h⟩, fun e => ?_, hk.1, nums_all ts b k (d + 1) hs.2.1 hk.2 (fun c hc => hf c (List.mem_cons_of_mem _ hc))⟩
    rw [e] at hs
    have := hs.1.1
    simp at this
theorem nums_all : ∀ (ts : List Tree) (b : Box) (k d : Int), soundAll ts b k = true → kindsAll ts → (∀ c ∈ tellAll ts d, CellFit c) → numsAll ts
  | [], b, k, d, hs, hk, hf => trivial
  | t :: ts, b, k, d, hs, hk, hf => by
    unfold soundAll at hs
    simp only [Bool.and_eq_true] at hs
    exact ⟨nums_of t d hs.1.1 hk.1 (fun c hc => hf c (List.mem_append_left _ hc)), nums_all ts b k d hs.2 hk.2 (fun c hc => hf c (List.mem_append_right _ hc))⟩
end
/-- A layout's text is read back. -/
theorem parse_lay {l : List CellV} {t : Tree} (hr : readF l = some t) (w : World) (hN : NumV w) : Calls Tryz.prog 7 #[.string (str (planT t))] w fun e w' => ∃ sl, e = .returned (.tuple #[sl, .int .i64 0]) ∧ CeOwns w' (w.heap.size + 2) sl l ∧ Below w.heap.size w w' := by
  have hf := lay_fit hr
  have hl := hf.lay
  have hn : t.nums := nums_of t 0 hl.sound hl.kinds (by rw [hl.tell]; exact hf.fit)
  have hs : t.size ≤ 63 := by have := t.tell_length 0; rw [hl.tell] at this; have := hf.len; omega
  have h := parse_ok t w hN hn hs (by have := hf.txt; omega) (by rw [hl.tell]; exact hr)
  rw [hl.tell] at h
  exact h
end Go.Proofs.YtglncninkocgaabGreatDoor

namespace Go.Proofs.YtglncninkocgaabGreatDoor
open Go.RowKit
set_option linter.unusedVariables false
set_option maxRecDepth 100000

def oneT : Tree := .leaf ⟨0, 0, 80, 24⟩ 1
def oneL : List CellV := [⟨0, 1, 0, 0, 80, 24, 1⟩]
theorem one_read : readF oneL = some oneT := lay_readF ⟨trivial, by decide, rfl, rfl, by decide⟩
theorem put_two {a b : Nat} (h1 : a < 10) (h2 : b < 10) (h0 : 0 < a) : putL ((a * 10 + b : Nat) : Int) = [UInt8.ofNat (48 + a), UInt8.ofNat (48 + b)] := by
  rw [putL_in (by omega)]
  simp only [Int.toNat_natCast]
  rw [dec_big (by omega), dec_small (by omega)]
  have e1 : (a * 10 + b) / 10 = a := by omega
  have e2 : (a * 10 + b) % 10 = b := by omega
  rw [e1, e2]
  rfl
theorem put_one {a : Nat} (h1 : a < 10) : putL (a : Int) = [UInt8.ofNat (48 + a)] := by
  rw [putL_in (by omega)]
  simp only [Int.toNat_natCast]
  rw [dec_small h1]
theorem one_text : oneT.text = [56, 48, 120, 50, 52, 44, 48, 44, 48, 44, 49] := by
  have p80 : putL 80 = [56, 48] := put_two (a := 8) (b := 0) (by decide) (by decide) (by decide)
  have p24 : putL 24 = [50, 52] := put_two (a := 2) (b := 4) (by decide) (by decide) (by decide)
  have p0 : putL 0 = [48] := put_one (a := 0) (by decide)
  have p1 : putL 1 = [49] := put_one (a := 1) (by decide)
  show boxT ⟨0, 0, 80, 24⟩ ++ 44 :: putL 1 = _
  unfold boxT
  simp only [p80, p24, p0, p1]
  rfl
theorem one_plan : planT oneT = [98, 50, 53, 101, 44, 56, 48, 120, 50, 52, 44, 48, 44, 48, 44, 49] := by
  unfold planT
  rw [one_text]
  decide +kernel

set_option maxHeartbeats 4000000 in
theorem sure_true (w : World) (hN : NumV w) : Calls Tryz.prog 10 #[] w fun e w' => e = .returned (.bool true) ∧ Below w.heap.size w w' := by
  have HC : Hid (CeOwns (w.alloc (.cells #[.int .i64 0, .int .i64 1, .int .i64 0, .int .i64 0, .int .i64 80, .int .i64 24, .int .i64 1] 36)) w.heap.size (.slice (some ⟨w.heap.size, 0, none⟩) 1 1) oneL) := ⟨rfl, .inr ⟨w.heap.size, 1, _, rfl, Nat.le_refl _, (MapKept.heap_alloc w _).1, Nat.le_refl _, by decide, rfl, rfl⟩⟩
  have HB0 : Hid (Below w.heap.size w (w.alloc (.cells #[.int .i64 0, .int .i64 1, .int .i64 0, .int .i64 0, .int .i64 80, .int .i64 24, .int .i64 1] 36))) := (Below.refl _ _).alloc (Nat.le_refl _) _
  have hE : checkE oneL = 0 := by unfold checkE; rw [one_read]; rfl
  have hT : textF oneL = planT oneT := by unfold textF; rw [one_read]
  have HT : Hid (∀ u X, Below w.heap.size w X → CellsIn X u oneL → Calls Tryz.prog 25 #[u] X fun e w' => e = .returned (.tuple #[.string ⟨#[98, 50, 53, 101, 44, 56, 48, 120, 50, 52, 44, 48, 44, 48, 44, 49]⟩, .int .i64 0]) ∧ Below X.heap.size X w') := fun u X hX hu => by
    have h := text_any u oneL X hu (hN.below hX)
    rw [hT, hE, one_plan] at h
    exact h
  have HP : Hid (∀ X, Below w.heap.size w X → Calls Tryz.prog 7 #[.string ⟨#[98, 50, 53, 101, 44, 56, 48, 120, 50, 52, 44, 48, 44, 48, 44, 49]⟩] X fun e w' => ∃ sl, e = .returned (.tuple #[sl, .int .i64 0]) ∧ CeOwns w' (X.heap.size + 2) sl oneL ∧ Below X.heap.size X w') := fun X hX => by
    have h := parse_lay one_read X (hN.below hX)
    rw [one_plan] at h
    exact h
  have HS : Hid (∀ u v X, CellsIn X u oneL → CellsIn X v oneL → Calls Tryz.prog 9 #[u, v] X fun e w' => e = .returned (.bool true) ∧ Below X.heap.size X w') := fun u v X h1 h2 => by
    have h := same_any5 u v oneL oneL X h1 h2 (by decide)
    simpa using h
  clear hE hT hN
  go_enter Tryz.func10, Tryz.ntmps10
  go_wp2_with (first | (go_at_call 25; refine (HT.out _ _ HB0.out HC.out.cellsIn).mono ?_; rintro e w1 ⟨rfl, hb1⟩; have HC1 := hidden (HC.out.below hb1); have HB1 := hidden (below_step HB0.out hb1); clear hb1) | (go_at_call 7; refine (HP.out _ HB1.out).mono ?_; rintro e w2 ⟨sl, rfl, ho2, hb2⟩; obtain ⟨sa, sn, sc, rfl⟩ := ce_slice ho2; have HC2 := hidden (HC1.out.below hb2); have HO2 := hidden ho2; have HB2 := hidden (below_step HB1.out hb2); clear ho2 hb2) | (go_at_call 9; refine (HS.out _ _ _ HO2.out.cellsIn HC2.out.cellsIn).mono ?_; rintro e w3 ⟨rfl, hb3⟩; have HB3 := hidden (below_step HB2.out hb3); clear hb3))
  all_goals go_ret
  exact ⟨rfl, HB3.out⟩
end Go.Proofs.YtglncninkocgaabGreatDoor
