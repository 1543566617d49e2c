/-
  The document's queue: what lies in memory; New, Size, isLine, lines, Oldest.
-/
import Derived.Test.YtkpnolkbheoocaaQMem
import Derived.WalkKit
namespace Go.Proofs.Ytkpnolkbheoocaa
open Go.RowKit
set_option linter.unusedVariables false
set_option maxRecDepth 100000

/-- A line, or what is left of it; whose it is. -/
structure Item where
  x : List UInt8
  o : Int × Int
def itV (i : Item) : List Value := [.string (str i.x), .int .i64 i.o.1, .int .i64 i.o.2]
def itsV (l : List Item) : List Value := l.flatMap itV
theorem its_len (l : List Item) : (itsV l).length = l.length * 3 := by
  induction l with
  | nil => rfl
  | cons p ps ih => have h : itsV (p :: ps) = itV p ++ itsV ps := rfl; rw [h, List.length_append, ih, List.length_cons]; simp [itV]; omega
theorem its_get {l : List Item} {i : Nat} {p : Item} (h : l[i]? = some p) : (itsV l)[i * 3]? = some (.string (str p.x)) ∧ (itsV l)[i * 3 + 1]? = some (.int .i64 p.o.1) ∧ (itsV l)[i * 3 + 2]? = some (.int .i64 p.o.2) := by
  induction l generalizing i with
  | nil => simp at h
  | cons x ps ih =>
    have hc : itsV (x :: ps) = itV x ++ itsV ps := rfl
    cases i with
    | zero =>
      simp at h
      subst h
      rw [hc]
      exact ⟨rfl, rfl, rfl⟩
    | succ i =>
      obtain ⟨h1, h2, h3⟩ := ih (i := i) (by simpa using h)
      have hl : (itV x).length = 3 := rfl
      rw [hc, List.getElem?_append_right (by omega), List.getElem?_append_right (by omega), List.getElem?_append_right (by omega), hl]
      rw [show (i + 1) * 3 - 3 = i * 3 by omega, show (i + 1) * 3 + 1 - 3 = i * 3 + 1 by omega, show (i + 1) * 3 + 2 - 3 = i * 3 + 2 by omega]
      exact ⟨h1, h2, h3⟩
theorem its_snoc (l : List Item) (p : Item) : itsV (l ++ [p]) = itsV l ++ itV p := by simp [itsV]
theorem its_one (l : List Item) : (itsV l).all (fun u => u.oneCell') = true := by
  rw [List.all_eq_true]
  intro u hu
  obtain ⟨p, _, hp⟩ := List.mem_flatMap.1 hu
  simp only [itV, List.mem_cons, List.not_mem_nil, or_false] at hp
  rcases hp with rfl | rfl | rfl <;> rfl
def textsI (l : List Item) : List UInt8 := l.flatMap Item.x
/-- The document's queue beside what is in it: the items' list's value. -/
structure RIn (w : World) (vi : Value) (its : List Item) (q : Qs) : Prop where
  row : Row w 68 3 vi its.length (itsV its)
  pos : ∀ i ∈ its, 0 < i.x.length
  bs : textsI its = q.bs
  os : spread Item.o (fun i => i.x.length) its = q.os
/-- .. as a value. -/
def refV (q : Qs) (vi : Value) : Value := .agg #[.int .i64 (q.lim : Int), vi, .bool q.cl]
theorem RIn.keep {w w' : World} {vi : Value} {its : List Item} {q : Qs} (h : RIn w vi its q) (hk : ∀ g, vi.ownBlock = some g → w'.heap[g]? = w.heap[g]?) : RIn w' vi its q := ⟨h.row.keep hk, h.pos, h.bs, h.os⟩
theorem RIn.below {w w' : World} {vi : Value} {its : List Item} {q : Qs} (h : RIn w vi its q) (hb : Below w.heap.size w w') : RIn w' vi its q := ⟨h.row.below hb, h.pos, h.bs, h.os⟩
theorem RIn.few {w : World} {vi : Value} {its : List Item} {q : Qs} (h : RIn w vi its q) (hq : q.Ok) : its.length ≤ 106497 := by
  have h1 := spread_few (o := Item.o) (n := fun i => i.x.length) (l := its) h.pos
  rw [h.os, hq.len] at h1
  have := hq.few
  omega
theorem texts_len (l : List Item) : (textsI l).length = (spread Item.o (fun i => i.x.length) l).length := by
  induction l with
  | nil => rfl
  | cons x l ih =>
    have h : textsI (x :: l) = x.x ++ textsI l := rfl
    rw [h, spread_cons, List.length_append, List.length_append, ih, List.length_replicate]
theorem texts_take (l : List Item) (k : Nat) : (textsI (l.take k)).length ≤ (textsI l).length := by
  have h : textsI (l.take k) ++ textsI (l.drop k) = textsI l := by unfold textsI; rw [← List.flatMap_append, List.take_append_drop]
  rw [← h, List.length_append]
  omega
theorem texts_snoc (l : List Item) (p : Item) : textsI (l ++ [p]) = textsI l ++ p.x := by simp [textsI]

/-- What the walk sees of the items. -/
theorem RIn.shape {w : World} {vi : Value} {its : List Item} {q : Qs} (h : RIn w vi its q) : ∃ ad n cap, vi = .slice ad n cap ∧ its.length = n ∧ (∀ W, Below w.heap.size w W → ∀ (i : Nat) (p : Item), its[i]? = some p → ∃ g o, ad = some ⟨g, o, none⟩ ∧ W.cell? ⟨g, o + i * 3, none⟩ = some (.string (str p.x)) ∧ W.cell? ⟨g, o + i * 3 + 1, none⟩ = some (.int .i64 p.o.1) ∧ W.cell? ⟨g, o + i * 3 + 2, none⟩ = some (.int .i64 p.o.2)) := by
  obtain ⟨ad, cap, e, h1, h2, h3, h4⟩ := h.row.shape
  refine ⟨ad, _, cap, e, rfl, fun W hW i p hp => ?_⟩
  cases ad with
  | none =>
    have := (h3 rfl).1
    have hl := (List.getElem?_eq_some_iff.1 hp).1
    omega
  | some a =>
    obtain ⟨g, o, rfl, h5, h6, h7⟩ := h4 a rfl
    obtain ⟨g0, g1, g2⟩ := its_get hp
    obtain ⟨h8, _⟩ := h7 W (hW.block g h6)
    exact ⟨g, o, rfl, h8 _ _ g0, by rw [Nat.add_assoc]; exact h8 _ _ g1, by rw [Nat.add_assoc]; exact h8 _ _ g2⟩

set_option maxHeartbeats 1000000 in
theorem refSize_any {w : World} {vi : Value} {its : List Item} {q : Qs} (h : RIn w vi its q) (hq : q.Ok) :
    Calls Try.prog 30 #[refV q vi] w fun x w' => x = .returned (.int .i64 (q.bs.length : Int)) ∧ Below w.heap.size w w' := by
  obtain ⟨ad, n, cap, rfl, hn, hc⟩ := h.shape
  have hfew := hq.few
  obtain ⟨L, hL⟩ : ∃ L, q.bs.length = L := ⟨_, rfl⟩
  have hlen := h.few hq
  have HT : Hid (textsI its = q.bs) := h.bs
  have HN : Hid (its.length = n) := hn
  obtain ⟨l0, hl0⟩ : ∃ l0, q.lim = l0 := ⟨_, rfl⟩
  obtain ⟨W0, hW0⟩ : ∃ W0, w.alloc (.cells #[.int .i64 (l0 : Int), .slice ad n cap, .bool q.cl] 26) = W0 := ⟨_, rfl⟩
  obtain ⟨N0, hN0⟩ : ∃ N0, w.heap.size = N0 := ⟨_, rfl⟩
  have HW0 : Hid (w.alloc (.cells #[.int .i64 (l0 : Int), .slice ad n cap, .bool q.cl] 26) = W0) := hW0
  have HN0 : Hid (w.heap.size = N0) := hN0
  have HB0 : Hid (Below w.heap.size w W0) := by show Below _ _ _; rw [← hW0]; exact (Below.refl _ _).alloc (Nat.le_refl _) _
  have hpar : W0.heap[N0]? = some (.cells #[.int .i64 (l0 : Int), .slice ad n cap, .bool q.cl] 26 (0, 0)) := by rw [← hW0, ← hN0]; exact heap_alloc_new w _
  have HC : Hid (∀ (i : Nat) (p : Item), its[i]? = some p → ∃ g o, ad = some ⟨g, o, none⟩ ∧ W0.cell? ⟨g, o + i * 3, none⟩ = some (.string (str p.x))) := fun i p hp => by
    obtain ⟨g, o, e, h1, _⟩ := hc W0 HB0.out i p hp
    exact ⟨g, o, e, h1⟩
  have p0 : W0.cell? ⟨N0, 1, none⟩ = some (.slice ad n cap) := cell_atT hpar 1
  rw [hn] at hlen
  rw [hL] at hfew ⊢
  have HL : Hid (q.bs.length = L) := hL
  unfold refV
  rw [hl0]
  clear h hc hn hL hpar hW0 hN0 hl0
  go_enter Try.func30, Try.ntmps30
  go_wp2_with fail
  rw [HW0.out, HN0.out]
  go_loopw [3, 4] (fun s3 s4 wr => ∃ i : Nat, i ≤ n ∧ s4 = .int .i64 i ∧ s3 = .int .i64 ((textsI (its.take i)).length : Int) ∧ W0 = wr) (fun _ v _ => n - (intOf v).toNat)
  case atStart => exact ⟨0, Nat.zero_le _, rfl, rfl, rfl⟩
  case round =>
    obtain ⟨i, hi, rfl, rfl, rfl⟩ := hrel
    by_cases hlt : i < n
    · obtain ⟨p, hp⟩ : ∃ p, its[i]? = some p := ⟨_, List.getElem?_eq_getElem (by rw [HN.out]; exact hlt)⟩
      obtain ⟨g, o, rfl, q0⟩ := HC.out i p hp
      have HTk : Hid ((textsI (its.take (i + 1))).length = (textsI (its.take i)).length + p.x.length) := by show _ = _; rw [List.take_add_one, hp]; show (textsI (its.take i ++ [p])).length = _; rw [texts_snoc, List.length_append]
      have hb : (textsI (its.take i)).length + p.x.length ≤ L := by
        have h1 := texts_take its (i + 1)
        rw [HTk.out, HT.out, HL.out] at h1
        exact h1
      obtain ⟨S, hS⟩ : ∃ S, (textsI (its.take i)).length = S := ⟨_, rfl⟩
      obtain ⟨z, hz⟩ : ∃ z, str p.x = z := ⟨_, rfl⟩
      have hz2 : p.x.length = z.size := by rw [← hz]; rfl
      rw [hz] at q0
      rw [hS, hz2] at HTk hb
      rw [hS]
      clear hz hS hp hz2
      go_wp2
      go_roundw
      case rel => exact ⟨i + 1, by omega, by go_num, by rw [HTk.out]; go_num, by first | rfl | trivial⟩
      case measure => simp [intOf]; omega
    · obtain rfl : i = n := by omega
      have hT : (textsI (its.take i)).length = L := by rw [List.take_of_length_le (by rw [HN.out]; omega), HT.out, HL.out]
      rw [hT]
      go_wp2
      all_goals go_ret
      all_goals exact ⟨rfl, HB0.out⟩

theorem lineB_take (l : List UInt8) (k : Nat) (h : ∀ c ∈ l.take k, c ≠ 10) (c : UInt8) (hk : l[k]? = some c) (hc : c ≠ 10) : ∀ d ∈ l.take (k + 1), d ≠ 10 := by
  rw [List.take_add_one, hk]
  intro d hd
  rcases List.mem_append.1 hd with hd | hd
  · exact h d hd
  · simp at hd
    subst hd
    exact hc
set_option maxHeartbeats 1000000 in
theorem refIsLine_any (l : List UInt8) (w : World) (hl : l.length ≤ 9223372036854775807) :
    Calls Try.prog 46 #[.string (str l)] w fun x w' => x = .returned (.bool (lineB l)) ∧ w = w' := by
  obtain ⟨z, hz⟩ : ∃ z, str l = z := ⟨_, rfl⟩
  have HZ : Hid (l = z.data.toList) := by show _ = _; rw [← hz]; rfl
  obtain ⟨n, hn⟩ : ∃ n, z.size = n := ⟨_, rfl⟩
  have HLn : Hid (l.length = n) := by show _ = _; rw [← hn, ← hz]; rfl
  have hn1 : n ≤ 9223372036854775807 := by rw [← HLn.out]; exact hl
  rw [hz]
  clear hz hl
  go_enter Try.func46, Try.ntmps46
  go_wp2_with fail
  go_loopw [3] (fun s2 wr => ∃ i : Nat, i ≤ n ∧ s2 = .int .i64 i ∧ Hid (∀ c ∈ l.take i, c ≠ 10) ∧ w = wr) (fun v _ => n - (intOf v).toNat)
  case atStart => exact ⟨0, Nat.zero_le _, rfl, (fun c hc => by simp at hc), rfl⟩
  case round =>
    obtain ⟨i, hi, rfl, HA, rfl⟩ := hrel
    by_cases hlt : i < n
    · have hiz : i < z.size := by omega
      obtain ⟨c, hc⟩ : ∃ c, z[i] = c := ⟨_, rfl⟩
      have HC : Hid (l[i]? = some c) := by
        show _ = _
        rw [HZ.out, List.getElem?_eq_getElem (by rw [size_data]; exact hiz), ← hc]
        rfl
      by_cases h10 : c = 10
      · subst h10
        have HBad : Hid (lineB l = false) := by
          show _ = _
          unfold lineB
          rw [decide_eq_false_iff_not]
          intro h
          exact h.2 10 (List.mem_of_getElem? HC.out) rfl
        go_wp2
        all_goals go_ret
        all_goals exact ⟨by rw [HBad.out]; rfl, rfl⟩
      · have h10n : ¬ (c.toNat : Int) = 10 := fun e => h10 (UInt8.toNat_inj.1 (by show c.toNat = 10; omega))
        have HN : Hid (∀ d ∈ l.take (i + 1), d ≠ 10) := lineB_take l i HA.out c HC.out h10
        go_wp2
        go_roundw
        case rel => exact ⟨i + 1, by omega, by go_num, HN, by first | rfl | trivial⟩
        case measure => simp [intOf]; omega
    · obtain rfl : i = n := by omega
      have HB : Hid (lineB l = decide (i ≤ 8192)) := by
        show _ = _
        have h := HA.out
        rw [List.take_of_length_le (by rw [HLn.out]; omega)] at h
        unfold lineB
        rw [HLn.out]
        simp only [decide_eq_decide]
        exact ⟨fun h => h.1, fun h2 => ⟨h2, h⟩⟩
      by_cases h8 : i ≤ 8192
      · have d : (i : Int) ≤ 8192 := by omega
        go_wp2
        all_goals go_ret
        all_goals exact ⟨by rw [HB.out]; simp [h8], rfl⟩
      · have d : ¬ (i : Int) ≤ 8192 := by omega
        go_wp2
        all_goals go_ret
        all_goals exact ⟨by rw [HB.out]; simp [h8], rfl⟩

end Go.Proofs.Ytkpnolkbheoocaa
