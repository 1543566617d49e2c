/-
  Buffers: List, the program's.
-/
import Derived.Test.YtgbaeajcgiaboaaDoorUGet
namespace Go.Proofs.YtgbaeajcgiaboaaDoor
open Go.RowKit
set_option linter.unusedVariables false
set_option maxRecDepth 100000

/-- A buffer as it is told. -/
def encB (k : Kp) : List Value := [.string k.n, .string k.t]
def cellsB (l : List Kp) : List Value := l.flatMap encB
theorem cellsB_append (a b : List Kp) : cellsB (a ++ b) = cellsB a ++ cellsB b := List.flatMap_append
theorem cellsB_len (l : List Kp) : (cellsB l).length = l.length * 2 := by
  induction l with
  | nil => rfl
  | cons k l ih => unfold cellsB at *; rw [List.flatMap_cons, List.length_append, ih, List.length_cons]; simp [encB]; omega
theorem cellsB_at : ∀ (l : List Kp) (j : Nat) (hj : j < l.length) (c : Nat) (u : Value), (encB l[j])[c]? = some u → (cellsB l)[j * 2 + c]? = some u
  | k :: l, 0, _, c, u, h => by
    unfold cellsB
    rw [List.flatMap_cons, List.getElem?_append_left (by have := (List.getElem?_eq_some_iff.1 h).1; simpa using this)]
    simpa using h
  | k :: l, j + 1, hj, c, u, h => by
    have := cellsB_at l j (by simpa using hj) c u (by simpa using h)
    unfold cellsB at this ⊢
    rw [List.flatMap_cons, List.getElem?_append_right (by simp [encB]; omega), ← this]
    congr 1
    simp [encB]; omega
/-- A list of told buffers in memory. -/
def BfsAt (w : World) (v : Value) (l : List Kp) : Prop := Row w 34 2 v l.length (cellsB l)
theorem underB : Tryd.prog.underlying 31 = some (.slice 34) := Tryd.underlying31
theorem infoBf : (Tryd.prog.info? 34).map (fun i => (i.zero, i.size, i.bytes)) = some (some (.agg #[.string ⟨#[]⟩, .string ⟨#[]⟩]), 2, 32) := by kernel_rfl
theorem BfsAt.shape {w : World} {v : Value} {l : List Kp} (h : BfsAt w v l) : ∃ ad cap, v = .slice ad l.length cap ∧ l.length ≤ cap ∧ cap ≤ maxLen ∧ (ad = none → l = [] ∧ cap = 0) ∧ ∀ a, ad = some a → ∃ g o, a = ⟨g, o, none⟩ ∧ v.ownBlock = some g ∧ g < w.heap.size ∧ ∀ W : World, W.heap[g]? = w.heap[g]? → (∀ j (hj : j < l.length) (c : Nat) u, (encB l[j])[c]? = some u → W.cell? ⟨g, o + j * 2 + c, none⟩ = some u) ∧ ∀ q, W.frozen? ⟨g, q, none⟩ = false := by
  obtain ⟨ad, cap, rfl, h1, h2, h3, h4⟩ := Row.shape h
  refine ⟨ad, cap, rfl, h1, h2, fun e => ⟨List.eq_nil_of_length_eq_zero (h3 e).1, (h3 e).2⟩, fun a ha => ?_⟩
  obtain ⟨g, o, rfl, h5, h6, h7⟩ := h4 a ha
  refine ⟨g, o, rfl, h5, h6, fun W hW => ⟨fun j hj c u hu => ?_, fun q => ?_⟩⟩
  · have := (h7 W hW).1 (j * 2 + c) u (cellsB_at l j hj c u hu)
    rwa [← Nat.add_assoc] at this
  · obtain ⟨cur, hc⟩ := Row.block h h5
    exact free_at (hW.trans hc) q
theorem BfsAt.sl {w : World} {v : Value} {l : List Kp} (h : BfsAt w v l) : ∃ a n p, v = .slice a n p := by
  obtain ⟨ad, cp, e, _⟩ := h.shape
  exact ⟨_, _, _, e⟩
/-- The list that has been told so far. -/
structure Tol (w wr : World) (v : Value) (l : List Kp) : Prop where
  below : Below w.heap.size w wr
  row : BfsAt wr v l
  own : ∀ g, v.ownBlock = some g → w.heap.size ≤ g
theorem Tol.more {w wr w2 : World} {v : Value} {l : List Kp} (h : Tol w wr v l) (hb : Below wr.heap.size wr w2) : Tol w w2 v l :=
  ⟨h.below.trans (hb.mono h.below.size), Row.below h.row hb, h.own⟩
theorem Tol.grown {w wr w2 : World} {v v2 : Value} {l : List Kp} (h : Tol w wr v l) (x : Kp) (hr : Row w2 34 2 v2 (l.length + 1) (cellsB l ++ encB x)) (hg : Grown wr w2 v v2 v.ownBlock.toList) : Tol w w2 v2 (l ++ [x]) := by
  refine ⟨hg.but.under h.below h.below.size (fun k hk => h.own k (by simpa using hk)), ?_, fun g hq => ?_⟩
  · unfold BfsAt
    rw [cellsB_append, List.length_append]
    simpa [cellsB] using hr
  · rcases hg.own with z | z
    · exact h.own g (z ▸ hq)
    · rw [z] at hq
      cases hq
      exact h.below.size
/-- Its spare room cut off. -/
theorem BfsAt.cut {w : World} {a : Addr} {n cap : Nat} {l : List Kp} (h : BfsAt w (.slice (some a) n cap) l) (hn : l.length = n) : BfsAt w (.slice (some a) n n) l := by
  obtain ⟨hl, ⟨h0, _⟩ | ⟨g', o', cap', cur, he, hg, h1, h2, h3, h4⟩⟩ := h
  · cases h0
  simp only [Value.slice.injEq, Option.some.injEq] at he
  obtain ⟨rfl, -, rfl⟩ := he
  rw [hn] at h1
  exact ⟨hl, .inr ⟨g', o', n, cur, by rw [hn], hg, by rw [hn]; exact Nat.le_refl _, by omega, by have := Nat.mul_le_mul_right 2 h1; omega, h4⟩⟩
set_option maxHeartbeats 8000000 in
theorem list_op {w : World} {b : Nat} {v : Value} {s : St} {j : Nat} (h : Bf w b v s.l (s.lim : Int) (s.c : Int)) (hG : Good s j) :
    Calls Tryd.prog 13 #[.pointer (some ⟨b, 0, none⟩)] w fun e w' => ∃ v', e = .returned v' ∧ Tol w w' v' s.l := by
  have hlen := hG.len
  obtain ⟨ad, cp, rfl, hle, hcm, hnil, hsome⟩ := h.row.shape
  have c0 : w.cell? ⟨b, 0, none⟩ = some _ := cell_at h.hd 0
  obtain ⟨n, hn⟩ : ∃ n, s.l.length = n := ⟨_, rfl⟩
  have HN := hidK hn
  have HS := hidK hsome
  have HNil := hidK hnil
  have HG := hidK hG
  have hn63 : n ≤ 40 := by omega
  rw [hn] at c0
  clear hn hsome hnil h hle hcm hlen hG
  go_enter Tryd.func13, Tryd.ntmps13
  go_wp2_with fail
  go_loopw [3, 11] (fun s0 j0 wr => ∃ k : Nat, ∃ (a : Option Addr) (p : Nat), k ≤ n ∧ s0 = .slice a k p ∧ j0 = .int .i64 k ∧ Hid (k ≤ p ∧ p ≤ maxLen ∧ (k = 0 → a = none ∧ p = 0) ∧ (0 < k → a ≠ none)) ∧ Hid (Tol w wr (.slice a k p) (s.l.take k))) (fun _ j0 _ => n - (intOf j0).toNat)
  case atStart => exact ⟨0, none, 0, Nat.zero_le _, rfl, rfl, ⟨Nat.le_refl _, Nat.zero_le _, fun _ => ⟨rfl, rfl⟩, fun h => absurd h (by omega)⟩, ⟨Below.refl _ _, Row.nil _ _ _, fun g hg => by cases hg⟩⟩
  case round =>
    obtain ⟨k, a, p, hk, rfl, rfl, HQ, HL⟩ := hrel
    by_cases hlt2 : k < n
    · have hkl : k < s.l.length := by rw [HN.out]; exact hlt2
      cases ad with
      | none => have := (HNil.out rfl).1; rw [this] at hkl; simp at hkl
      | some ad =>
        obtain ⟨g0, o0, rfl, hob, hgl, hat⟩ := HS.out _ rfl
        have hcells := fun c u hu => hat wr (HL.out.below.block g0 hgl) k hkl c u hu
        have ht : s.l.take (k + 1) = s.l.take k ++ [s.l[k]] := by rw [List.take_add_one, List.getElem?_eq_getElem hkl, Option.toList_some]
        have hxm : s.l[k] ∈ s.l := List.getElem_mem hkl
        have e1 := HG.out.names _ hxm
        have e2 := HG.out.texts _ hxm
        have htl : (s.l.take k).length = k := by rw [List.length_take]; omega
        obtain ⟨⟨n1, t1, a1⟩, hx⟩ : ∃ q, s.l[k] = q := ⟨_, rfl⟩
        rw [hx] at hcells ht e1 e2
        have c1 : wr.cell? ⟨g0, o0 + k * 3, none⟩ = some (.string n1) := hcells 0 _ rfl
        have c2 : wr.cell? ⟨g0, o0 + k * 3 + 1, none⟩ = some (.string t1) := hcells 1 _ rfl
        have c3 : wr.cell? ⟨g0, o0 + k * 3 + 2, none⟩ = some (.bool a1) := hcells 2 _ rfl
        have hi1 : (k : Int) < (n : Int) := by omega
        have HT : Hid (s.l.take (k + 1) = s.l.take k ++ [⟨n1, t1, a1⟩]) := ht
        have HTl := hidK htl
        have HC := hidK (fun W => fresh_any n1 t1 W (by have : n1.size ≤ 32 := e1; omega) (by have : t1.size ≤ 65536 := e2; omega))
        have HBk : Hid (Below wr.heap.size wr (wr.alloc (.cells #[.string n1, .string t1, .bool a1] 54))) := (Below.refl _ _).alloc (Nat.le_refl _) _
        clear hcells hat hx ht hxm e1 e2 hob hgl htl
        go_wp2_with fail
        refine (HC.out _).mono ?_
        rintro e w2 ⟨rfl, hb2⟩
        have HV := hidK ((HL.out.more HBk.out).more hb2)
        have hb4 : Below w2.heap.size w2 (w2.alloc (.cells #[.string n1, .string t1] 34)) := (Below.refl _ _).alloc (Nat.le_refl _) _
        have HV4 := hidK (HV.out.more hb4)
        have HSr := hidK (Src.fresh (P := Tryd.prog) underB w2 #[.string n1, .string t1] 34 2 rfl rfl)
        have hrow : Row (w2.alloc (.cells #[.string n1, .string t1] 34)) 34 2 (.slice a k p) k (cellsB (s.l.take k)) := by
          have := HV4.out.row
          unfold BfsAt at this
          rwa [HTl.out] at this
        have HRow := hidK hrow
        clear hb2 hb4 c1 c2 c3 hrow
        go_wp2_with (at_builtin; refine wpList_append_row (w2.alloc (.cells #[.string n1, .string t1] 34)) rfl _ _ 31 31 rfl underB infoBf rfl rfl rfl HRow.out HSr.out (by omega) (by unfold maxLen; omega) ?_; intro v2 w5 hr hg; have HV5 := hidK (HV4.out.grown ⟨n1, t1, a1⟩ (by rw [HTl.out]; exact hr.out) hg.out); have hsh := Row.shape hr.out; clear hr hg; obtain ⟨a2, p2, rfl, hp1, hp2, hp3, hp4⟩ := hsh; have HQ5 := hidK (And.intro hp1 (And.intro hp2 hp3)); clear hp1 hp2 hp3 hp4)
        go_roundw
        case rel => exact ⟨k + 1, a2, p2, by omega, rfl, by go_num, ⟨HQ5.out.1, HQ5.out.2.1, fun h => by omega, fun _ e => by have := (HQ5.out.2.2 e).1; omega⟩, by rw [HT.out]; exact HV5⟩
        case measure => simp [intOf]; omega
    · have hl : s.l.take k = s.l := List.take_of_length_le (by have := HN.out; omega)
      rw [hl] at HL
      obtain ⟨hq2, hq3, hq4, hq5⟩ := HQ.out
      have hkn : k = n := by omega
      have hq6 : k ≤ 9223372036854775807 := by omega
      cases a with
      | none =>
        have h0 : k = 0 := by
          rcases Nat.eq_zero_or_pos k with z | z
          · exact z
          · exact absurd rfl (hq5 z)
        subst h0
        obtain ⟨-, rfl⟩ := hq4 rfl
        clear hl hq4 hq5 HQ hkn
        go_wp2_with fail
        go_ret
        exact ⟨_, rfl, HL.out⟩
      | some a =>
        have hpos : ¬ k = 0 := fun z => by have := (hq4 z).1; cases this
        have HL2 : Hid (Tol w wr (.slice (some a) k k) s.l) := ⟨HL.out.below, BfsAt.cut HL.out.row (by have := HN.out; omega), fun g hg => HL.out.own g (by cases a; simpa [Value.ownBlock] using hg)⟩
        have hp63 : p ≤ 9223372036854775807 := by unfold maxLen at hq3; omega
        clear hl hq4 hq5 HQ hkn hq3
        go_wp2_with fail
        go_ret
        exact ⟨_, rfl, HL2.out⟩
end Go.Proofs.YtgbaeajcgiaboaaDoor
