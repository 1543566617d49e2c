/-
  Plans: a layout's text.
  Plans: the reader of a body takes a byte, a number.
-/
import Derived.Test.YtglncninkocgaabGreatDoorCV
import Derived.Test.YtglncninkocgaabGreatDoorCW
import Derived.Test.YtglncninkocgaabGreatDoorCD
import Derived.Test.YtglncninkocgaabGreatDoorCB
import Derived.Lib.IndexBytes
import Derived.Lib.Split
namespace Go.Proofs.YtglncninkocgaabGreatDoor
open Go.RowKit
set_option linter.unusedVariables false
set_option maxRecDepth 20000

def planT (t : Tree) : List UInt8 := headL (sumS t.text) ++ t.text
def textF (l : List CellV) : List UInt8 := match readF l with
  | none => []
  | some t => planT t
theorem body_lay (v : Value) (l : List CellV) (t : Tree) (w : World) (hv : CellsIn w v l) (hN : NumV w) (h : LayFit l t) : Calls Tryz.prog 39 #[v] w fun e w' => e = .returned (.string (str t.text)) ∧ Below w.heap.size w w' := by
  obtain ⟨b, off, cap, rfl, hcap, hs⟩ := hv.seen (by intro e; have := h.pos; rw [e] at this; simp at this)
  refine (bodyOf_any w hN b off cap l.length l hs rfl h.len h.fit).mono ?_
  rintro e w' ⟨rfl, hb⟩
  refine ⟨ret_str ?_, hb⟩
  rw [← h.lay.tell, fold_all t h.lay.kinds]

set_option maxHeartbeats 1000000 in
theorem text_any (v : Value) (l : List CellV) (w : World) (hv : CellsIn w v l) (hN : NumV w) : Calls Tryz.prog 25 #[v] w fun e w' => e = .returned (.tuple #[.string (str (textF l)), .int .i64 (checkE l)]) ∧ Below w.heap.size w w' := by
  have HC : Hid (Calls Tryz.prog 22 #[v] w fun e w' => e = .returned (.int .i64 (checkE l)) ∧ Below w.heap.size w w') := check_any v l w hv
  cases hr : readF l with
  | none =>
    have hE : checkE l = 40 := by unfold checkE; rw [hr]; rfl
    have hT : textF l = [] := by unfold textF; rw [hr]
    rw [hT]
    rw [hE] at HC ⊢
    clear hr hE hT hv hN
    go_enter Tryz.func25, Tryz.ntmps25
    go_wp2_with (go_at_call 22; refine HC.out.mono ?_; rintro e w1 ⟨rfl, hb1⟩)
    all_goals go_ret2
    exact ⟨rfl, hb1⟩
  | some t =>
    have hE : checkE l = 0 := by unfold checkE; rw [hr]; rfl
    have hT : textF l = headL (sumS t.text) ++ t.text := by unfold textF; rw [hr]; rfl
    have hf := lay_fit hr
    have HB : Hid (∀ X, Below w.heap.size w X → Calls Tryz.prog 39 #[v] X fun e w' => e = .returned (.string (str t.text)) ∧ Below X.heap.size X w') := fun X hX => body_lay v l t X (hv.below hX) (hN.below hX) hf
    have HH : Hid (∀ X, Calls Tryz.prog 20 #[.string (str t.text)] X fun e w' => e = .returned (.string (str (headL (sumS t.text)))) ∧ Below X.heap.size X w') := fun X => headOf_any (str t.text) X (by rw [str_size]; have := hf.txt; omega)
    have hl1 : (str t.text).size ≤ 2000 := by rw [str_size]; have := hf.txt; omega
    obtain ⟨tx, htx⟩ : ∃ x, str t.text = x := ⟨_, rfl⟩
    obtain ⟨hd, hhd⟩ : ∃ x, str (headL (sumS t.text)) = x := ⟨_, rfl⟩
    have hl2 : hd.size = 5 := by rw [← hhd]; rfl
    have HA : Hid (hd ++ tx = str (textF l)) := by show _ = _; rw [hT, ← hhd, ← htx, str_cat]
    rw [htx] at HB HH hl1
    rw [hhd] at HH
    rw [hE] at HC ⊢
    clear hr hE hT hv hN hf htx hhd
    go_enter Tryz.func25, Tryz.ntmps25
    go_wp2_with (first | (go_at_call 22; refine HC.out.mono ?_; rintro e w1 ⟨rfl, hb1⟩) | (go_at_call 39; refine (HB.out _ hb1).mono ?_; rintro e w2 ⟨rfl, hb2⟩) | (go_at_call 20; refine (HH.out _).mono ?_; rintro e w3 ⟨rfl, hb3⟩))
    all_goals go_ret2
    exact ⟨by rw [← HA.out]; rfl, below_step hb1 (below_step hb2 hb3)⟩
end Go.Proofs.YtglncninkocgaabGreatDoor

namespace Go.Proofs.YtglncninkocgaabGreatDoor
open Go.RowKit
set_option linter.unusedVariables false
set_option maxRecDepth 20000

/-- A reader: what is left of its text, the cells that it has. -/
structure RdAt (w0 W : World) (g : Nat) (rest : List UInt8) (sl : Value) (acc : List CellV) : Prop where
  at_ : W.heap[g]? = some (.cells #[.string (str rest), sl] 69 (0, 0))
  own : CeOwns W (g + 1) sl acc
  b : Below w0.heap.size w0 W
  ge : w0.heap.size ≤ g
theorem RdAt.lt {w0 W : World} {g : Nat} {rest : List UInt8} {sl : Value} {acc : List CellV} (h : RdAt w0 W g rest sl acc) : g < W.heap.size := lt_of_someN h.at_
theorem RdAt.below {w0 W W' : World} {g : Nat} {rest : List UInt8} {sl : Value} {acc : List CellV} (h : RdAt w0 W g rest sl acc) (hb : Below W.heap.size W W') : RdAt w0 W' g rest sl acc :=
  ⟨(hb.block g h.lt).trans h.at_, h.own.below hb, below_step h.b hb, h.ge⟩
theorem RdAt.set {w0 W : World} {g : Nat} {rest m : List UInt8} {sl : Value} {acc : List CellV} (h : RdAt w0 W g rest sl acc) : RdAt w0 (W.setCell ⟨g, 0, none⟩ (.string (str m))) g m sl acc := by
  have hlt := h.lt
  have h' : W.heap[g] = .cells #[.string (str rest), sl] 69 (0, 0) := by have := h.at_; simpa [Array.getElem?_eq_getElem hlt] using this
  have hg := grownBy_set W g 0 (.string (str m))
  refine ⟨?_, World.ownsRow.kept h.own hg ?_, h.b.grown hg h.b.size (fun k hk => by cases hk; exact h.ge), h.ge⟩
  · show (W.heap.modify g _)[g]? = _
    rw [Array.getElem?_eq_getElem (by simpa using hlt), Array.getElem_modify_self, h']
    rfl
  · cases hv : sl.ownBlock with
    | none => exact .inl rfl
    | some k =>
      refine .inr fun e => ?_
      cases e
      have := (World.ownsRow.lt h.own g hv).1
      omega
theorem RdAt.cells {w0 W : World} {g : Nat} {rest : List UInt8} {sl : Value} {acc : List CellV} (h : RdAt w0 W g rest sl acc) : W.cell? ⟨g, 0, none⟩ = some (.string (str rest)) ∧ W.cell? ⟨g, 1, none⟩ = some sl ∧ W.frozen? ⟨g, 0, none⟩ = false ∧ W.frozen? ⟨g, 1, none⟩ = false := by
  have h1 := h.at_
  exact ⟨by simp [World.cell?, h1], by simp [World.cell?, h1], by simp [World.frozen?, h1], by simp [World.frozen?, h1]⟩

theorem str_get (l : List UInt8) (k : Nat) (c : UInt8) (h : l[k]? = some c) (hk : k < (str l).size) : (str l)[k] = c := by
  have h2 : k < l.length := hk
  have : l[k]? = some l[k] := List.getElem?_eq_getElem h2
  rw [this] at h
  have e : (str l)[k] = l[k] := by show (l.toArray)[k] = _; simp
  exact e.trans (Option.some.inj h)
theorem str_drop (l : List UInt8) (k : Nat) : (str l).extract k l.length = str (l.drop k) := by
  rw [← data_str ((str l).extract k l.length)]
  congr 1
  have : l.length = (str l).size := rfl
  rw [this, Lib.extract_to_end]
  rfl
theorem str_take (l : List UInt8) (k : Nat) : (str l).extract 0 k = str (l.take k) := by
  rw [← data_str ((str l).extract 0 k)]
  congr 1
  rw [Lib.extract_from_zero]
  rfl

theorem next_ok (w0 W : World) (g : Nat) (c : UInt8) (m : List UInt8) (sl : Value) (acc : List CellV) (hR : RdAt w0 W g (c :: m) sl acc) (hl : m.length ≤ 1000000) : Calls Tryz.prog 48 #[.pointer (some ⟨g, 0, none⟩)] W fun e w' => e = .returned (.int .u8 c.toNat) ∧ W.setCell ⟨g, 0, none⟩ (.string (str m)) = w' := by
  obtain ⟨q0, q1, f0, f1⟩ := hR.cells
  obtain ⟨s, hs⟩ : ∃ s, str (c :: m) = s := ⟨_, rfl⟩
  have hsz : s.size = m.length + 1 := by rw [← hs]; rfl
  have hg : ∀ h : 0 < s.size, s[0] = c := fun h => by subst hs; exact str_get _ 0 c rfl h
  have HE : Hid (s.extract 1 (m.length + 1) = str m) := by subst hs; exact str_drop (c :: m) 1
  have hne := toList_ne0 (s := s) (by omega)
  obtain ⟨n1, n2⟩ := hne
  rw [hs] at q0
  have hx := hg (by omega)
  clear hR hs hg
  go_enter Tryz.func48, Tryz.ntmps48
  go_wp2
  all_goals go_ret
  all_goals exact ⟨rfl, by rw [HE.out]⟩
theorem expect_ok (w0 W : World) (g : Nat) (c : UInt8) (m : List UInt8) (sl : Value) (acc : List CellV) (hR : RdAt w0 W g (c :: m) sl acc) (hl : m.length ≤ 1000000) : Calls Tryz.prog 47 #[.pointer (some ⟨g, 0, none⟩), .int .u8 c.toNat] W fun e w' => e = .returned (.tuple #[]) ∧ W.setCell ⟨g, 0, none⟩ (.string (str m)) = w' := by
  have HX : Hid (Calls Tryz.prog 48 #[.pointer (some ⟨g, 0, none⟩)] W fun e w' => e = .returned (.int .u8 c.toNat) ∧ W.setCell ⟨g, 0, none⟩ (.string (str m)) = w') := next_ok w0 W g c m sl acc hR hl
  clear hR
  go_enter Tryz.func47, Tryz.ntmps47
  go_wp2_with (go_at_call 48; refine HX.out.mono ?_; rintro e w1 ⟨rfl, rfl⟩)
  all_goals first | go_end0 | exact ⟨rfl, .tuple #[], (by simp [results, Tryz.results47, go_sem]), rfl, rfl⟩
  all_goals exact ⟨rfl, rfl⟩

def digB (c : UInt8) : Bool := decide (48 ≤ c.toNat ∧ c.toNat ≤ 57)
def NoDig (m : List UInt8) : Prop := ∀ c r, m = c :: r → digB c = false
theorem isDigit_any (c : UInt8) (W : World) : Calls Tryz.prog 60 #[.int .u8 c.toNat] W fun e w' => e = .returned (.bool (digB c)) ∧ W = w' := by
  by_cases h1 : 48 ≤ c.toNat
  · by_cases h2 : c.toNat ≤ 57
    · have e : digB c = true := by unfold digB; simp; omega
      rw [e]
      have z1 : (48 : Int) ≤ (c.toNat : Int) := by omega
      have z2 : (c.toNat : Int) ≤ 57 := by omega
      go_enter Tryz.func60, Tryz.ntmps60
      go_wp2
      go_ret
      exact ⟨rfl, rfl⟩
    · have e : digB c = false := by unfold digB; simp; omega
      rw [e]
      have z1 : (48 : Int) ≤ (c.toNat : Int) := by omega
      have z2 : ¬ (c.toNat : Int) ≤ 57 := by omega
      go_enter Tryz.func60, Tryz.ntmps60
      go_wp2
      go_ret
      exact ⟨rfl, rfl⟩
  · have e : digB c = false := by unfold digB; simp; omega
    rw [e]
    have z1 : ¬ (48 : Int) ≤ (c.toNat : Int) := by omega
    go_enter Tryz.func60, Tryz.ntmps60
    go_wp2
    go_ret
    exact ⟨rfl, rfl⟩

theorem num_put {n : Int} (h : 0 ≤ n ∧ n ≤ 4611686018427387904) : Num (putL n) n := ⟨h, rfl⟩
theorem num_same {l : List UInt8} {a b : Int} (ha : Num l a) (hb : Num l b) : a = b := by
  have h1 := num_val ha
  have h2 := num_val hb
  omega
theorem digs_in {n : Int} (h : 0 ≤ n ∧ n ≤ 4611686018427387904) (m : List UInt8) (k : Nat) (hk : k < (putL n).length) : ∃ c, (putL n ++ m)[k]? = some c ∧ digB c = true := by
  have h1 : (putL n)[k]? = some (putL n)[k] := List.getElem?_eq_getElem hk
  refine ⟨(putL n)[k], by rw [List.getElem?_append_left hk, h1], ?_⟩
  have := num_digit (num_put h) _ (List.getElem_mem hk)
  unfold digB
  simp
  omega

set_option maxHeartbeats 4000000 in
theorem number_ok (w0 W : World) (g : Nat) (n : Int) (m : List UInt8) (sl : Value) (acc : List CellV) (hN : NumV w0) (hn : 0 ≤ n ∧ n ≤ 4611686018427387904) (hm : NoDig m) (hR : RdAt w0 W g (putL n ++ m) sl acc) (hl : m.length ≤ 1000000) : Calls Tryz.prog 46 #[.pointer (some ⟨g, 0, none⟩)] W fun e w' => e = .returned (.int .i64 n) ∧ ∃ W1, Below W.heap.size W W1 ∧ W1.setCell ⟨g, 0, none⟩ (.string (str m)) = w' := by
  obtain ⟨q0, q1, f0, f1⟩ := hR.cells
  obtain ⟨s, hs⟩ : ∃ s, str (putL n ++ m) = s := ⟨_, rfl⟩
  obtain ⟨D, hD⟩ : ∃ D, (putL n).length = D := ⟨_, rfl⟩
  have hD1 : D ≤ 19 := by rw [← hD]; exact putL_length n
  have hsz : s.size = D + m.length := by rw [← hs, ← hD, str_size, List.length_append]
  have HG : Hid (∀ (k : Nat) (h : k < s.size), k < D → ∃ c, s[k] = c ∧ digB c = true) := fun k h hk => by
    obtain ⟨c, h1, h2⟩ := digs_in hn m k (by omega)
    subst hs
    exact ⟨c, str_get _ k c h1 h, h2⟩
  have HG2 : Hid (∀ (h : D < s.size), ∃ c, s[D] = c ∧ digB c = false) := fun h => by
    cases m with
    | nil => simp at hsz; omega
    | cons c r =>
      subst hs
      refine ⟨c, str_get _ D c ?_ h, hm c r rfl⟩
      rw [← hD, List.getElem?_append_right (Nat.le_refl _), Nat.sub_self]
      rfl
  have HE : Hid (s.extract D (D + m.length) = str m) := by
    show _ = _
    subst hs
    have := str_drop (putL n ++ m) D
    rw [List.length_append, hD, ← hD, List.drop_left, hD] at this
    exact this
  have HE0 : Hid (s.extract 0 D = str (putL n)) := by
    show _ = _
    subst hs
    rw [str_take, ← hD, List.take_left]
  have HNum : Hid (∀ X, Below W.heap.size W X → Calls Tryz.prog 61 #[.string (str (putL n))] X fun e w' => e = .returned (.tuple #[.int .i64 n, .bool true]) ∧ Below X.heap.size X w') := fun X hX => by
    refine (number_any (str (putL n)) X (hN.below (below_step hR.b hX)) (by rw [str_size]; omega)).mono ?_
    rintro e w' ⟨⟨k, rfl, h1⟩ | ⟨rfl, h1⟩, hb⟩
    · have := num_same h1 (num_put hn)
      subst this
      exact ⟨rfl, hb⟩
    · exact absurd (num_put hn) (h1 n)
  have HDg : Hid (∀ c X, Calls Tryz.prog 60 #[.int .u8 (c : UInt8).toNat] X fun e w' => e = .returned (.bool (digB c)) ∧ X = w') := isDigit_any
  have HC : Hid (∀ X, Below W.heap.size W X → X.cell? ⟨g, 0, none⟩ = some (.string s) ∧ X.frozen? ⟨g, 0, none⟩ = false) := fun X hX => by
    have h := (hR.below hX).cells
    rw [hs] at h
    exact ⟨h.1, h.2.2.1⟩
  rw [hs] at q0
  obtain ⟨M, hM⟩ : ∃ M, m.length = M := ⟨_, rfl⟩
  have HML : Hid (m.length = M) := hM
  rw [hM] at hsz HE hl
  clear hR hs hN hm hD hM q1 f1
  go_enter Tryz.func46, Tryz.ntmps46
  go_wp2_with fail
  go_loopw [3] (fun v wr => ∃ k : Nat, k ≤ D ∧ v = .int .i64 k ∧ W = wr) (fun v _ => D - (intOf v).toNat)
  case atStart => exact ⟨0, Nat.zero_le _, rfl, rfl⟩
  case round =>
    obtain ⟨k, hk, rfl, rfl⟩ := hrel
    by_cases hlt : k < D
    · obtain ⟨c, hx, hdg⟩ := HG.out k (by omega) hlt
      have hz : (k : Int) < (D : Int) + (M : Int) := by omega
      go_wp2_with (go_at_call 60; refine (HDg.out c _).mono ?_; rintro e w1 ⟨rfl, rfl⟩)
      exact ⟨⟨k + 1, by omega, rfl, trivial⟩, by simp [intOf]; omega⟩
    · obtain rfl : k = D := by omega
      have i1 : (k : Int) ≤ (k : Int) + (M : Int) := by omega
      by_cases hM0 : M = 0
      · subst hM0
        have hz : ¬ (k : Int) < (k : Int) := by omega
        have hsz' : s.size = k := by omega
        rw [Nat.add_zero] at HE hsz
        go_wp2_with (first | (go_at_call 61; rw [HE0.out]; refine (HNum.out _ (Below.refl _ _)).mono ?_; rintro e w1 ⟨rfl, hb1⟩; have HB1 := hidden hb1; have p0 := (HC.out w1 hb1).1; have p1 := (HC.out w1 hb1).2; clear hb1))
        all_goals go_ret
        exact ⟨rfl, w1, HB1.out, by rw [List.length_eq_zero_iff.1 HML.out]; rfl⟩
      · obtain ⟨c, hx, hdg⟩ := HG2.out (by omega)
        have hz : (k : Int) < (k : Int) + (M : Int) := by omega
        go_wp2_with (first | (go_at_call 60; refine (HDg.out c _).mono ?_; rintro e w2 ⟨rfl, rfl⟩) | (go_at_call 61; rw [HE0.out]; refine (HNum.out _ (Below.refl _ _)).mono ?_; rintro e w1 ⟨rfl, hb1⟩; have HB1 := hidden hb1; have p0 := (HC.out w1 hb1).1; have p1 := (HC.out w1 hb1).2; clear hb1))
        all_goals go_ret
        exact ⟨rfl, w1, HB1.out, by rw [HE.out]⟩
end Go.Proofs.YtglncninkocgaabGreatDoor
