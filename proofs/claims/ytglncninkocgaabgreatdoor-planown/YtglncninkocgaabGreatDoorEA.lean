/-
  Plans: what a text is read as, by plain functions.
  Plans: the reader of a body, whatever the text is: it gives up by a panic.
-/
import Derived.Test.YtglncninkocgaabGreatDoorCZ
namespace Go.Proofs.YtglncninkocgaabGreatDoor
open Go.RowKit
set_option linter.unusedVariables false

instance (l : List UInt8) (n : Int) : Decidable (Num l n) := by unfold Num; infer_instance
/-- The number that digits say. -/
def numV (l : List UInt8) : Option Int := if Num l (val 0 l : Int) then some (val 0 l : Int) else none
theorem numV_some {l : List UInt8} {n : Int} : numV l = some n ↔ Num l n := by
  unfold numV
  constructor
  · intro h
    split at h
    · rename_i hn
      cases h
      exact hn
    · cases h
  · intro h
    have e := num_val h
    rw [if_pos (by rw [e]; exact h), e]
theorem numV_none {l : List UInt8} : numV l = none ↔ ∀ n, ¬ Num l n := by
  constructor
  · intro h n hn
    rw [numV_some.2 hn] at h
    cases h
  · intro h
    unfold numV
    rw [if_neg (h _)]
/-- The number that a text begins with, and what stands behind it. -/
def numF (s : List UInt8) : Option (Int × List UInt8) := (numV (s.takeWhile digB)).map fun n => (n, s.dropWhile digB)
def expF (c : UInt8) : List UInt8 → Option (List UInt8)
  | [] => none
  | b :: r => if b = c then some r else none
def boxF (s : List UInt8) : Option (Box × List UInt8) :=
  (numF s).bind fun a => (expF 120 a.2).bind fun s1 => (numF s1).bind fun b => (expF 44 b.2).bind fun s2 => (numF s2).bind fun c => (expF 44 c.2).bind fun s3 => (numF s3).map fun d => (⟨c.1, d.1, a.1, b.1⟩, d.2)
mutual
/-- The cell that a text begins with, with all that stands below it. -/
def cellF : Nat → List UInt8 → Option (Tree × List UInt8)
  | 0, _ => none
  | n + 1, s => match boxF s with
    | none => none
    | some (_, []) => none
    | some (b, c :: r) =>
      if c = 44 then (numF r).map fun p => (.leaf b p.1, p.2)
      else if c = 123 then (partsF n 125 r).map fun p => (.split b 2 p.1, p.2)
      else if c = 91 then (partsF n 93 r).map fun p => (.split b 3 p.1, p.2)
      else none
/-- Cells with commas between, up to a bracket. -/
def partsF : Nat → UInt8 → List UInt8 → Option (List Tree × List UInt8)
  | 0, _, _ => none
  | n + 1, e, s => match cellF n s with
    | none => none
    | some (_, []) => none
    | some (t, c :: r) =>
      if c = e then some ([t], r)
      else if c = 44 then (partsF n e r).map fun p => (t :: p.1, p.2)
      else none
end
theorem numF_some {s r : List UInt8} {n : Int} (h : numF s = some (n, r)) : s = putL n ++ r ∧ Rng n ∧ NoDig r := by
  unfold numF at h
  cases hv : numV (s.takeWhile digB) with
  | none => rw [hv] at h; cases h
  | some k =>
    rw [hv] at h
    cases h
    have hn := numV_some.1 hv
    refine ⟨?_, hn.1, ?_⟩
    · rw [hn.2, List.takeWhile_append_dropWhile]
    · intro c q e
      have h1 := List.head?_dropWhile_not digB s
      rw [e] at h1
      simpa using h1
theorem num_len {n : Int} (h : Rng n) : 1 ≤ (putL n).length := by
  rw [putL_in h]
  have := dec_ne n.toNat
  cases hd : Go.Lib.decDigits n.toNat with
  | nil => exact absurd hd this
  | cons a b => simp
theorem expF_some {c : UInt8} {s r : List UInt8} (h : expF c s = some r) : s = c :: r := by
  cases s with
  | nil => cases h
  | cons b q =>
    by_cases e : b = c
    · rw [show expF c (b :: q) = if b = c then some q else none from rfl, if_pos e] at h
      rw [e, Option.some.inj h]
    · rw [show expF c (b :: q) = if b = c then some q else none from rfl, if_neg e] at h
      cases h
theorem boxF_some {s r : List UInt8} {b : Box} (h : boxF s = some (b, r)) : s = boxT b ++ r ∧ b.Fit ∧ NoDig r ∧ r.length < s.length := by
  unfold boxF at h
  simp only [Option.bind_eq_some_iff, Option.map_eq_some_iff] at h
  obtain ⟨⟨w, a1⟩, h1, s1, h2, ⟨hh, a2⟩, h3, s2, h4, ⟨x, a3⟩, h5, s3, h6, ⟨y, a4⟩, h7, h8⟩ := h
  cases h8
  obtain ⟨e1, r1, n1⟩ := numF_some h1
  have e2 := expF_some h2
  obtain ⟨e3, r3, n3⟩ := numF_some h3
  have e4 := expF_some h4
  obtain ⟨e5, r5, n5⟩ := numF_some h5
  have e6 := expF_some h6
  obtain ⟨e7, r7, n7⟩ := numF_some h7
  dsimp only at e2 e4 e6
  refine ⟨?_, ⟨r5, r7, r1, r3⟩, n7, ?_⟩
  · rw [e1, e2, e3, e4, e5, e6, e7]
    unfold boxT
    simp
  · rw [e1, e2, e3, e4, e5, e6, e7]
    simp
    omega
mutual
theorem cellF_some : ∀ (n : Nat) (s : List UInt8) (t : Tree) (m : List UInt8), cellF n s = some (t, m) → s = t.text ++ m ∧ t.nums ∧ m.length < s.length
  | 0, s, t, m, h => by cases h
  | n + 1, s, t, m, h => by
    unfold cellF at h
    split at h
    · cases h
    · cases h
    · rename_i b c r hb
      obtain ⟨e1, hf, hn, hl⟩ := boxF_some hb
      have hl' : r.length + 1 < s.length := by simpa using hl
      split at h
      · rename_i hc
        subst hc
        obtain ⟨⟨p, q⟩, hp, e⟩ := Option.map_eq_some_iff.1 h
        cases e
        obtain ⟨e2, rp, np⟩ := numF_some hp
        refine ⟨?_, ⟨hf, rp⟩, ?_⟩
        · rw [e1, e2]
          show _ = (boxT b ++ 44 :: putL p) ++ q
          simp
        · have := congrArg List.length e2
          rw [List.length_append] at this
          show q.length < _
          omega
      · split at h
        · rename_i hc
          subst hc
          obtain ⟨⟨ts, q⟩, hp, e⟩ := Option.map_eq_some_iff.1 h
          cases e
          obtain ⟨e2, hne, hts, hq⟩ := partsF_some n 125 r ts q hp
          refine ⟨?_, ⟨hf, hne, .inl rfl, hts⟩, by show q.length < _; omega⟩
          rw [e1, e2]
          show _ = (boxT b ++ openB 2 :: ((moreT ts).tail ++ [shutB 2])) ++ q
          rw [show openB 2 = 123 from rfl, show shutB 2 = 125 from rfl]
          simp
        · split at h
          · rename_i hc
            subst hc
            obtain ⟨⟨ts, q⟩, hp, e⟩ := Option.map_eq_some_iff.1 h
            cases e
            obtain ⟨e2, hne, hts, hq⟩ := partsF_some n 93 r ts q hp
            refine ⟨?_, ⟨hf, hne, .inr rfl, hts⟩, by show q.length < _; omega⟩
            rw [e1, e2]
            show _ = (boxT b ++ openB 3 :: ((moreT ts).tail ++ [shutB 3])) ++ q
            rw [show openB 3 = 91 from rfl, show shutB 3 = 93 from rfl]
            simp
          · cases h
theorem partsF_some : ∀ (n : Nat) (e : UInt8) (s : List UInt8) (ts : List Tree) (m : List UInt8), partsF n e s = some (ts, m) → s = (moreT ts).tail ++ e :: m ∧ ts ≠ [] ∧ numsAll ts ∧ m.length < s.length
  | 0, e, s, ts, m, h => by cases h
  | n + 1, e, s, ts, m, h => by
    unfold partsF at h
    split at h
    · cases h
    · cases h
    · rename_i t c r hb
      obtain ⟨e1, hf, hl⟩ := cellF_some n s t (c :: r) hb
      have hl' : r.length + 1 < s.length := by simpa using hl
      split at h
      · rename_i hc
        subst hc
        cases h
        refine ⟨?_, by simp, ⟨hf, trivial⟩, by omega⟩
        rw [e1]
        show _ = (t.text ++ moreT []) ++ _
        rw [show moreT [] = [] from rfl, List.append_nil]
      · split at h
        · rename_i hc
          subst hc
          obtain ⟨⟨us, q⟩, hp, e'⟩ := Option.map_eq_some_iff.1 h
          cases e'
          obtain ⟨e2, hne, hts, hq⟩ := partsF_some n e r us q hp
          refine ⟨?_, by simp, ⟨hf, hts⟩, by show q.length < _; omega⟩
          rw [e1, e2]
          show _ = (t.text ++ moreT us) ++ _
          cases us with
          | nil => exact absurd rfl hne
          | cons u us => show _ = (t.text ++ 44 :: (u.text ++ moreT us)) ++ _; rw [show (moreT (u :: us)).tail = u.text ++ moreT us from rfl]; simp
        · cases h
end
end Go.Proofs.YtglncninkocgaabGreatDoor

namespace Go.Proofs.YtglncninkocgaabGreatDoor
open Go.RowKit
set_option linter.unusedVariables false
set_option maxRecDepth 20000

/-- What the reader gives up with. -/
def notBody : PanicEntry := { v := .iface 9 (.string ⟨#[110, 111, 116, 32, 97, 32, 98, 111, 100, 121]⟩), recovered := false }
theorem giveUp_any (w : World) : Calls Tryz.prog 36 #[] w fun e w' => e = .panicked [notBody] ∧ w = w' := by
  go_enter Tryz.func36, Tryz.ntmps36
  go_wp2
  exact ⟨rfl, rfl, rfl⟩
theorem next_none (w0 W : World) (g : Nat) (sl : Value) (acc : List CellV) (hR : RdAt w0 W g [] sl acc) : Calls Tryz.prog 48 #[.pointer (some ⟨g, 0, none⟩)] W fun e w' => e = .panicked [notBody] ∧ W = w' := by
  obtain ⟨q0, q1, f0, f1⟩ := hR.cells
  have q0' : W.cell? ⟨g, 0, none⟩ = some (.string ⟨#[]⟩) := q0
  have HG : Hid (∀ X, Calls Tryz.prog 36 #[] X fun e w' => e = .panicked [notBody] ∧ X = w') := giveUp_any
  clear hR q0
  go_enter Tryz.func48, Tryz.ntmps48
  go_wp2_with (go_at_call 36; refine (HG.out _).mono ?_; rintro e w1 ⟨rfl, rfl⟩)
  exact ⟨rfl, rfl, rfl⟩
theorem expect_none (w0 W : World) (g : Nat) (c : UInt8) (sl : Value) (acc : List CellV) (hR : RdAt w0 W g [] sl acc) : Calls Tryz.prog 47 #[.pointer (some ⟨g, 0, none⟩), .int .u8 c.toNat] W fun e w' => e = .panicked [notBody] ∧ W = w' := by
  have HX : Hid (Calls Tryz.prog 48 #[.pointer (some ⟨g, 0, none⟩)] W fun e w' => e = .panicked [notBody] ∧ W = w') := next_none w0 W g sl acc hR
  clear hR
  go_enter Tryz.func47, Tryz.ntmps47
  go_wp2_with (go_at_call 48; refine HX.out.mono ?_; rintro e w1 ⟨rfl, rfl⟩)
  exact ⟨rfl, rfl, rfl⟩
theorem expect_other (w0 W : World) (g : Nat) (b c : UInt8) (m : List UInt8) (sl : Value) (acc : List CellV) (hR : RdAt w0 W g (b :: m) sl acc) (hl : m.length ≤ 1000000) (hbc : b ≠ c) : Calls Tryz.prog 47 #[.pointer (some ⟨g, 0, none⟩), .int .u8 c.toNat] W fun e w' => e = .panicked [notBody] ∧ W.setCell ⟨g, 0, none⟩ (.string (str m)) = w' := by
  have HX : Hid (Calls Tryz.prog 48 #[.pointer (some ⟨g, 0, none⟩)] W fun e w' => e = .returned (.int .u8 b.toNat) ∧ W.setCell ⟨g, 0, none⟩ (.string (str m)) = w') := next_ok w0 W g b m sl acc hR hl
  have HG : Hid (∀ X, Calls Tryz.prog 36 #[] X fun e w' => e = .panicked [notBody] ∧ X = w') := giveUp_any
  have hne : ((b.toNat : Int) != (c.toNat : Int)) = true := by
    simp only [bne_iff_ne, ne_eq, Int.ofNat_inj]
    exact fun h => hbc (UInt8.toNat_inj.1 h)
  have hne2 : ¬ (b.toNat : Int) = (c.toNat : Int) := by simpa using hne
  clear hR hbc
  go_enter Tryz.func47, Tryz.ntmps47
  go_wp2_with (first | (go_at_call 48; refine HX.out.mono ?_; rintro e w1 ⟨rfl, rfl⟩) | (go_at_call 36; refine (HG.out _).mono ?_; rintro e w1 ⟨rfl, rfl⟩))
  exact ⟨rfl, rfl, rfl⟩

theorem numF_none {s : List UInt8} (h : numF s = none) : ∀ n, ¬ Num (s.takeWhile digB) n := by
  unfold numF at h
  cases hv : numV (s.takeWhile digB) with
  | none => exact numV_none.1 hv
  | some k => rw [hv] at h; cases h
theorem take_dig (s : List UInt8) (k : Nat) (h : k < (s.takeWhile digB).length) : ∃ c, s[k]? = some c ∧ digB c = true := by
  have h1 : (s.takeWhile digB)[k]? = some (s.takeWhile digB)[k] := List.getElem?_eq_getElem h
  have hs : s = s.takeWhile digB ++ s.dropWhile digB := (List.takeWhile_append_dropWhile).symm
  refine ⟨(s.takeWhile digB)[k], ?_, ?_⟩
  · conv => lhs; rw [hs]
    rw [List.getElem?_append_left h, h1]
  · exact List.all_eq_true.1 (List.all_takeWhile) _ (List.getElem_mem h)
theorem take_stop (s : List UInt8) (c : UInt8) (h : s[(s.takeWhile digB).length]? = some c) : digB c = false := by
  have hs : s = s.takeWhile digB ++ s.dropWhile digB := (List.takeWhile_append_dropWhile).symm
  have h2 : (s.dropWhile digB)[0]? = some c := by
    rw [hs] at h
    rw [List.getElem?_append_right (by rw [← hs]; exact Nat.le_refl _)] at h
    rw [← hs, Nat.sub_self] at h
    exact h
  have h1 := List.head?_dropWhile_not digB s
  cases hd : s.dropWhile digB with
  | nil => rw [hd] at h2; cases h2
  | cons a r =>
    rw [hd] at h1 h2
    cases h2
    simpa using h1

set_option maxHeartbeats 4000000 in
theorem number_none (w0 W : World) (g : Nat) (s0 : List UInt8) (sl : Value) (acc : List CellV) (hN : NumV w0) (hn : numF s0 = none) (hR : RdAt w0 W g s0 sl acc) (hl : s0.length ≤ 1000000) : Calls Tryz.prog 46 #[.pointer (some ⟨g, 0, none⟩)] W fun e w' => e = .panicked [notBody] ∧ Below W.heap.size W w' := by
  obtain ⟨q0, q1, f0, f1⟩ := hR.cells
  obtain ⟨s, hs⟩ : ∃ s, str s0 = s := ⟨_, rfl⟩
  obtain ⟨D, hD⟩ : ∃ D, (s0.takeWhile digB).length = D := ⟨_, rfl⟩
  obtain ⟨L, hL⟩ : ∃ L, s.size = L := ⟨_, rfl⟩
  have hLl : s0.length = L := by rw [← hL, ← hs]; rfl
  have hDL : D ≤ L := by rw [← hD, ← hLl]; exact (List.takeWhile_sublist _).length_le
  have hLb : L ≤ 1000000 := by omega
  have HG : Hid (∀ (k : Nat) (h : k < s.size), k < D → ∃ c, s[k] = c ∧ digB c = true) := fun k h hk => by
    obtain ⟨c, h1, h2⟩ := take_dig s0 k (by omega)
    subst hs
    exact ⟨c, str_get _ k c h1 h, h2⟩
  have HG2 : Hid (∀ (h : D < s.size), ∃ c, s[D] = c ∧ digB c = false) := fun h => by
    obtain ⟨c, hc⟩ : ∃ c, s0[D]? = some c := ⟨_, List.getElem?_eq_getElem (by omega)⟩
    subst hs
    exact ⟨c, str_get _ D c hc h, take_stop s0 c (by rw [hD]; exact hc)⟩
  have HE0 : Hid (s.extract 0 D = str (s0.takeWhile digB)) := by
    show _ = _
    subst hs
    rw [str_take, ← hD]
    congr 1
    have e : s0 = s0.takeWhile digB ++ s0.dropWhile digB := (List.takeWhile_append_dropWhile).symm
    conv => lhs; rw [e]
    rw [List.take_append_of_le_length (by rw [← e]; exact Nat.le_refl _), ← e, List.take_length]
  have HNum : Hid (∀ X, Below W.heap.size W X → Calls Tryz.prog 61 #[.string (str (s0.takeWhile digB))] X fun e w' => ∃ k : Int, e = .returned (.tuple #[.int .i64 k, .bool false]) ∧ Below X.heap.size X w') := fun X hX => by
    refine (number_any (str (s0.takeWhile digB)) X (hN.below (below_step hR.b hX)) (by rw [str_size, hD]; omega)).mono ?_
    rintro e w' ⟨⟨k, rfl, h1⟩ | ⟨rfl, h1⟩, hb⟩
    · exact absurd h1 (numF_none hn k)
    · exact ⟨_, rfl, hb⟩
  have HDg : Hid (∀ c X, Calls Tryz.prog 60 #[.int .u8 (c : UInt8).toNat] X fun e w' => e = .returned (.bool (digB c)) ∧ X = w') := isDigit_any
  have HGu : Hid (∀ X, Calls Tryz.prog 36 #[] X fun e w' => e = .panicked [notBody] ∧ X = w') := giveUp_any
  rw [hs] at q0
  clear hR hs hN hD hn hl q1 f1 hLl
  go_enter Tryz.func46, Tryz.ntmps46
  go_wp2_with fail
  go_loopw [3] (fun v wr => ∃ k : Nat, k ≤ D ∧ v = .int .i64 k ∧ W = wr) (fun v _ => D - (intOf v).toNat)
  case atStart => exact ⟨0, Nat.zero_le _, rfl, rfl⟩
  case round =>
    obtain ⟨k, hk, rfl, rfl⟩ := hrel
    by_cases hlt : k < D
    · obtain ⟨c, hx, hdg⟩ := HG.out k (by omega) hlt
      have hz : (k : Int) < (L : Int) := by omega
      go_wp2_with (go_at_call 60; refine (HDg.out c _).mono ?_; rintro e w1 ⟨rfl, rfl⟩)
      first
        | exact ⟨⟨k + 1, by omega, rfl, trivial⟩, by simp [intOf]; omega⟩
        | (go_roundw
           case rel => exact ⟨k + 1, by omega, by first | rfl | go_num, rfl⟩
           case measure => simp [intOf]; omega)
    · have hkD : k = D := by omega
      subst hkD
      by_cases hM0 : k = L
      · have hz : ¬ (k : Int) < (L : Int) := by omega
        have hz2 : (k : Int) ≤ (L : Int) := by omega
        clear hM0
        go_wp2_with (first | (go_at_call 61; rw [HE0.out]; refine (HNum.out _ (Below.refl _ _)).mono ?_; rintro e w1 ⟨kk, rfl, hb1⟩; have HB1 := hidden hb1; clear hb1) | (go_at_call 36; refine (HGu.out _).mono ?_; rintro e w2 ⟨rfl, rfl⟩))
        exact ⟨rfl, rfl, HB1.out⟩
      · obtain ⟨c, hx, hdg⟩ := HG2.out (by omega)
        have hz : (k : Int) < (L : Int) := by omega
        have hz2 : (k : Int) ≤ (L : Int) := by omega
        go_wp2_with (first | (go_at_call 60; refine (HDg.out c _).mono ?_; rintro e w2 ⟨rfl, rfl⟩) | (go_at_call 61; rw [HE0.out]; refine (HNum.out _ (Below.refl _ _)).mono ?_; rintro e w1 ⟨kk, rfl, hb1⟩; have HB1 := hidden hb1; clear hb1) | (go_at_call 36; refine (HGu.out _).mono ?_; rintro e w2 ⟨rfl, rfl⟩))
        exact ⟨rfl, rfl, HB1.out⟩
end Go.Proofs.YtglncninkocgaabGreatDoor
