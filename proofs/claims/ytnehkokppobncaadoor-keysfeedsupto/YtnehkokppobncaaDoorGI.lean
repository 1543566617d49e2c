/-
  Keys: a byte of a character.
  Keys: the first byte of a key.
-/
import Derived.Test.YtnehkokppobncaaDoorGF
import Derived.Test.YtnehkokppobncaaDoorGG
import Derived.Test.YtnehkokppobncaaDoorGH
namespace Go.Proofs.YtnehkokppobncaaDoor
open Go.RowKit
set_option linter.unusedVariables false
set_option maxRecDepth 100000

/-- What a step leaves: the key, what is held. -/
def Tk (B d : Nat) (w0 w : World) (s : St) (r : Ending) (w' : World) : Prop :=
  r = .returned (.agg #[.int .i64 s.2.1, .int .i64 s.2.2]) ∧ (∃ v', Dc B d w0 w' v' s.1) ∧ Ft d w w'
theorem dec_chr (l : List UInt8) : (dec l).1 ≤ 1114111 := by
  unfold dec
  split
  · decide
  · exact Lib.rune_le _ _
theorem or_two {m : Int} (h : m = 0 ∨ m = 4) : bits .or .i64 m 2 = m + 2 := by rcases h with h | h <;> subst h <;> decide
theorem or_zero {m : Int} (h : m = 0 ∨ m = 4) : bits .or .i64 m 0 = m + 0 := by rcases h with h | h <;> subst h <;> decide
theorem behind_mods (l : List UInt8) : (behindF l).2 = 0 ∨ (behindF l).2 = 2 := by
  unfold behindF
  split
  · exact .inr rfl
  · exact .inl rfl
set_option maxHeartbeats 4000000 in
/-- A byte of a character; what is read anew, if need be, by 'again'. -/
theorem takeCharacter_of {B d : Nat} {w0 w : World} {v : Value} {l : List UInt8} (h : Dc B d w0 w v l) (hT : Tabs w0) (hl : l.length ≤ 999) (b : UInt8) (hne : (behindF (l ++ [b])).1 ≠ [])
    (hA : fullB (behindF (l ++ [b])).1 = true → (dec (behindF (l ++ [b])).1).2 < (behindF (l ++ [b])).1.length → ∀ W v1, Dc B d w0 W v1 (l ++ [b]) → Calls Tryd.prog 37 #[.pointer (some ⟨d, 0, none⟩), .int .u8 b.toNat] W (Tk B d w0 W (take0 b))) :
    Calls Tryd.prog 28 #[.pointer (some ⟨d, 0, none⟩), .int .u8 b.toNat] w (Tk B d w0 w (chF l b)) := by
  obtain ⟨W, Z, hW, hZ, HZ, HW, k0, k1, f0, f1⟩ := key_new w
  have HBw : Hid (B ≤ w.heap.size) := h.bw
  have hd := h.more HZ.out.below
  have HH := hidK (hold_any hd (by omega) b)
  have HFW : Hid (Ft d w W) := Ft.of HZ.out.below
  have HdZ : Hid (Z ≠ d) := by have := lt_block h.blk; show _ ≠ _; omega
  obtain ⟨p, hp⟩ : ∃ p, behindF (l ++ [b]) = p := ⟨_, rfl⟩
  have hpm := behind_mods (l ++ [b])
  rw [hp] at hne hA hpm
  obtain ⟨st, hst⟩ : ∃ st, chF l b = st := ⟨_, rfl⟩
  have HST : Hid ((if fullB p.1 then if (dec p.1).2 < p.1.length then take0 b else ([], if (dec p.1).2 = 1 ∨ chrB (dec p.1).1 = false then (0, 0) else (((dec p.1).1 : Int), p.2)) else (l ++ [b], (0, 0))) = st) := by show _ = _; rw [← hst, ← hp]; rfl
  rw [hst]
  have HP := hidK hp
  have HA := hidK hA
  clear h hd hl hst hp hA
  go_enter Tryd.func28, Tryd.ntmps28
  go_wp2_with fail
  refine HH.out.mono ?_
  rintro e w1 ⟨rfl, ⟨v1, hd1⟩, hf1⟩
  have HB1 := hidK (behind_any hd1)
  have HD1 := hidK hd1
  have HF1 := hidK (HFW.out.trans hf1)
  have hz1 : w1.heap[Z]? = some (.cells #[.int .i64 0, .int .i64 0] 36 (0, 0)) := hf1 _ _ _ _ HZ.out.key (by decide) HdZ.out
  have HZ1 := hidK hz1
  have hT1 := hd1.tabs hT
  rw [HP.out] at HB1
  clear hd1 hf1 hz1 k0 k1 f0 f1
  go_wp2_with fail
  refine HB1.out.mono ?_
  rintro e w2 ⟨⟨ad, n, c, rfl, hs⟩, rfl⟩
  obtain ⟨ad', c', e1, hcc, hsee⟩ := hs
  obtain ⟨g, o, e2, hcell⟩ := hsee hne
  have e3 : ad = some ⟨g, o, none⟩ ∧ n = p.1.length ∧ c = c' := by
    injection e1 with q1 q2 q3
    exact ⟨q1.trans e2, q2, q3⟩
  obtain ⟨rfl, hn, rfl⟩ := e3
  have HFu := hidK (full_any p.1 hne g o c hcc hT1 hcell)
  have HDe := hidK (fun (X : World) (hX : Below w1.heap.size w1 X) => decodeRune_any p.1 g o c (hT1.below hX) (fun j hj => (hX.cell (World.block_lt_of_cell? w1 _ (hcell j hj))).trans (hcell j hj)))
  have HT1 := hidK hT1
  rw [← hn] at HFu HDe
  have HN := hidK hn
  clear e1 e2 hcell hsee hcc hT1 HB1 hn
  cases hfull : fullB p.1 with
  | false =>
    rw [hfull] at HFu
    have HS2 : Hid ((l ++ [b], ((0 : Int), (0 : Int))) = st) := by
      show _ = _
      rw [← HST.out, hfull, if_neg (by decide)]
    clear hfull
    go_wp2_with fail
    refine HFu.out.mono ?_
    rintro e w3 ⟨rfl, hb3⟩
    have HD3 := hidK (HD1.out.more hb3)
    have HF3 := hidK (HF1.out.trans (Ft.of hb3))
    have hz3 : w3.heap[Z]? = some (.cells #[.int .i64 0, .int .i64 0] 36 (0, 0)) := (hb3.block Z (lt_block HZ1.out)).trans HZ1.out
    have HZ3 := hidK hz3
    have z0 : w3.cell? ⟨Z, 0, none⟩ = some (.int .i64 0) := cell_at hz3 0
    have z1 : w3.cell? ⟨Z, 1, none⟩ = some (.int .i64 0) := cell_at hz3 1
    have z2 : w3.frozen? ⟨Z, 0, none⟩ = false := free_at hz3 0
    have z3 : w3.frozen? ⟨Z, 1, none⟩ = false := free_at hz3 1
    clear hz3 hb3
    go_wp2_with fail
    refine dc_end rfl rfl HZ3.out (Nat.le_trans HBw.out HW.out) HD3.out HF3.out HW.out rfl rfl ?_
    intro X hX hX2
    rw [← HS2.out]
    exact ⟨rfl, ⟨_, hX⟩, hX2⟩
  | true =>
    rw [hfull] at HFu
    have HFl := hidK hfull
    obtain ⟨r, hr⟩ : ∃ r, (dec p.1).1 = r := ⟨_, rfl⟩
    obtain ⟨k, hk⟩ : ∃ k, (dec p.1).2 = k := ⟨_, rfl⟩
    have hr2 : r ≤ 1114111 := by rw [← hr]; exact dec_chr p.1
    rw [hr, hk] at HDe
    have HRK : Hid ((dec p.1).1 = r ∧ (dec p.1).2 = k) := ⟨hr, hk⟩
    have HIc : Hid (∀ X, Calls Tryd.prog 41 #[.int .i64 (r : Int)] X fun e w' => e = .returned (.bool (chrB r)) ∧ X = w') := isCharacter_any _
    have HN3 : ∀ X : World, Below w1.heap.size w1 X → Dc B d w0 X v1 (l ++ [b]) ∧ Ft d w X ∧ X.heap[Z]? = some (.cells #[.int .i64 0, .int .i64 0] 36 (0, 0)) := fun X hX => ⟨HD1.out.more hX, HF1.out.trans (Ft.of hX), (hX.block Z (lt_block HZ1.out)).trans HZ1.out⟩
    have HX3 := hidK HN3
    clear hr hk HN3 hfull
    go_wp2_with fail
    refine HFu.out.mono ?_
    rintro e w3 ⟨rfl, hb3⟩
    have HB3 := hidK hb3
    clear hb3
    go_wp2_with fail
    refine (HDe.out _ HB3.out).mono ?_
    rintro e w4 ⟨rfl, hb4⟩
    have HB4 := hidK (below_step HB3.out hb4)
    clear hb4
    by_cases hlt : k < n
    · have i1 : (k : Int) < (n : Int) := by omega
      have HAg := hidK (HA.out HFl.out (by rw [HRK.out.2, ← HN.out]; exact hlt) w4 v1 (HX3.out w4 HB4.out).1)
      have HS2 : Hid (take0 b = st) := by
        show _ = _
        rw [← HST.out, HFl.out, if_pos rfl, if_pos (by rw [HRK.out.2, ← HN.out]; exact hlt)]
      rw [HS2.out] at HAg
      clear hlt
      go_wp2_with fail
      refine HAg.out.mono ?_
      rintro e w5 ⟨rfl, ⟨v5, hd5⟩, hf5⟩
      have hz5 : w5.heap[Z]? = some (.cells #[.int .i64 0, .int .i64 0] 36 (0, 0)) := hf5 _ _ _ _ (HX3.out w4 HB4.out).2.2 (by decide) HdZ.out
      have HZ5 := hidK hz5
      have HD5 := hidK hd5
      have HF5 := hidK ((HX3.out w4 HB4.out).2.1.trans hf5)
      have z0 : w5.cell? ⟨Z, 0, none⟩ = some (.int .i64 0) := cell_at hz5 0
      have z1 : w5.cell? ⟨Z, 1, none⟩ = some (.int .i64 0) := cell_at hz5 1
      have z2 : w5.frozen? ⟨Z, 0, none⟩ = false := free_at hz5 0
      have z3 : w5.frozen? ⟨Z, 1, none⟩ = false := free_at hz5 1
      clear hz5 hd5 hf5
      go_wp2_with fail
      refine dc_end rfl rfl HZ5.out (Nat.le_trans HBw.out HW.out) HD5.out HF5.out HW.out rfl rfl ?_
      intro X hX hX2
      exact ⟨rfl, ⟨_, hX⟩, hX2⟩
    · have i1 : ¬ (k : Int) < (n : Int) := by omega
      have HDr := hidK (drop_any (HX3.out w4 HB4.out).1)
      have HS2 : Hid (([], if k = 1 ∨ chrB r = false then ((0 : Int), (0 : Int)) else ((r : Int), p.2)) = st) := by
        show _ = _
        rw [← HST.out, HFl.out, if_pos rfl, HRK.out.1, HRK.out.2, ← HN.out, if_neg hlt]
      clear hlt
      by_cases hk1 : k = 1 ∨ chrB r = false
      · have HS3 : Hid (([], ((0 : Int), (0 : Int))) = st) := by show _ = _; rw [← HS2.out, if_pos hk1]
        rcases (by by_cases q : k = 1
                   · exact .inl q
                   · exact .inr ⟨q, by rcases hk1 with h | h; exact absurd h q; exact h⟩ : k = 1 ∨ (k ≠ 1 ∧ chrB r = false)) with q | ⟨q, q2⟩
        · have i2 : ((k : Int) == 1) = true := by simp; omega
          have i3 : (k : Int) = 1 := by omega
          clear q hk1
          go_wp2_with fail
          refine HDr.out.mono ?_
          rintro e w5 ⟨rfl, ⟨v5, hd5⟩, hf5⟩
          have hz5 : w5.heap[Z]? = some (.cells #[.int .i64 0, .int .i64 0] 36 (0, 0)) := hf5 _ _ _ _ (HX3.out w4 HB4.out).2.2 (by decide) HdZ.out
          have HZ5 := hidK hz5
          have HD5 := hidK hd5
          have HF5 := hidK ((HX3.out w4 HB4.out).2.1.trans hf5)
          have z0 : w5.cell? ⟨Z, 0, none⟩ = some (.int .i64 0) := cell_at hz5 0
          have z1 : w5.cell? ⟨Z, 1, none⟩ = some (.int .i64 0) := cell_at hz5 1
          have z2 : w5.frozen? ⟨Z, 0, none⟩ = false := free_at hz5 0
          have z3 : w5.frozen? ⟨Z, 1, none⟩ = false := free_at hz5 1
          clear hz5 hd5 hf5
          go_wp2_with fail
          refine dc_end rfl rfl HZ5.out (Nat.le_trans HBw.out HW.out) HD5.out HF5.out HW.out rfl rfl ?_
          intro X hX hX2
          rw [← HS3.out]
          exact ⟨rfl, ⟨_, hX⟩, hX2⟩
        · have i2 : ((k : Int) == 1) = false := by simp; omega
          rw [q2] at HIc
          clear q q2 hk1
          go_wp2_with fail
          refine HDr.out.mono ?_
          rintro e w5 ⟨rfl, ⟨v5, hd5⟩, hf5⟩
          have hz5 : w5.heap[Z]? = some (.cells #[.int .i64 0, .int .i64 0] 36 (0, 0)) := hf5 _ _ _ _ (HX3.out w4 HB4.out).2.2 (by decide) HdZ.out
          have HZ5 := hidK hz5
          have HD5 := hidK hd5
          have HF5 := hidK ((HX3.out w4 HB4.out).2.1.trans hf5)
          have z0 : w5.cell? ⟨Z, 0, none⟩ = some (.int .i64 0) := cell_at hz5 0
          have z1 : w5.cell? ⟨Z, 1, none⟩ = some (.int .i64 0) := cell_at hz5 1
          have z2 : w5.frozen? ⟨Z, 0, none⟩ = false := free_at hz5 0
          have z3 : w5.frozen? ⟨Z, 1, none⟩ = false := free_at hz5 1
          clear hz5 hd5 hf5
          go_wp2_with (go_at_call 41; refine (HIc.out _).mono ?_; rintro e w6 ⟨rfl, rfl⟩)
          refine dc_end rfl rfl HZ5.out (Nat.le_trans HBw.out HW.out) HD5.out HF5.out HW.out rfl rfl ?_
          intro X hX hX2
          rw [← HS3.out]
          exact ⟨rfl, ⟨_, hX⟩, hX2⟩
      · have HS3 : Hid (([], ((r : Int), p.2)) = st) := by show _ = _; rw [← HS2.out, if_neg hk1]
        have q : k ≠ 1 := fun e => hk1 (.inl e)
        have q2 : chrB r = true := by simpa using fun e => hk1 (.inr e)
        have i2 : ((k : Int) == 1) = false := by simp; omega
        obtain ⟨m, hm⟩ : ∃ m, p.2 = m := ⟨_, rfl⟩
        rw [hm] at HS3 hpm
        have HWm : Hid (∀ X, Calls Tryd.prog 13 #[.agg #[.int .i64 (r : Int), .int .i64 0], .int .i64 m] X fun e w' => e = .returned (.agg #[.int .i64 (r : Int), .int .i64 m]) ∧ Below X.heap.size X w') := withMods_any r 0 m m (by rcases hpm with e | e <;> subst e <;> decide)
        rw [q2] at HIc
        clear q q2 hk1 hpm
        go_wp2_with fail
        refine HDr.out.mono ?_
        rintro e w5 ⟨rfl, ⟨v5, hd5⟩, hf5⟩
        have hz5 : w5.heap[Z]? = some (.cells #[.int .i64 0, .int .i64 0] 36 (0, 0)) := hf5 _ _ _ _ (HX3.out w4 HB4.out).2.2 (by decide) HdZ.out
        have HZ5 := hidK hz5
        have HD5 := hidK hd5
        have HF5 := hidK ((HX3.out w4 HB4.out).2.1.trans hf5)
        clear hz5 hd5 hf5
        go_wp2_with (go_at_call 41; refine (HIc.out _).mono ?_; rintro e w6 ⟨rfl, rfl⟩)
        refine (HWm.out _).mono ?_
        rintro e w7 ⟨rfl, hb7⟩
        have hz7 : w7.heap[Z]? = some (.cells #[.int .i64 0, .int .i64 0] 36 (0, 0)) := (hb7.block Z (lt_block HZ5.out)).trans HZ5.out
        have HZ7 := hidK hz7
        have HD7 := hidK (HD5.out.more hb7)
        have HF7 := hidK (HF5.out.trans (Ft.of hb7))
        have z0 : w7.cell? ⟨Z, 0, none⟩ = some (.int .i64 0) := cell_at hz7 0
        have z1 : w7.cell? ⟨Z, 1, none⟩ = some (.int .i64 0) := cell_at hz7 1
        have z2 : w7.frozen? ⟨Z, 0, none⟩ = false := free_at hz7 0
        have z3 : w7.frozen? ⟨Z, 1, none⟩ = false := free_at hz7 1
        clear hz7 hb7
        go_wp2_with fail
        refine dc_end rfl rfl HZ7.out (Nat.le_trans HBw.out HW.out) HD7.out HF7.out HW.out rfl rfl ?_
        intro X hX hX2
        rw [← HS3.out]
        exact ⟨rfl, ⟨_, hX⟩, hX2⟩
end Go.Proofs.YtnehkokppobncaaDoor

namespace Go.Proofs.YtnehkokppobncaaDoor
open Go.RowKit
set_option linter.unusedVariables false
set_option maxRecDepth 100000

theorem lone_mods (b : Nat) : (loneF b).2 = 0 ∨ (loneF b).2 = 4 := by
  unfold loneF
  split
  · exact .inl rfl
  · split
    · exact .inr rfl
    · split <;> exact .inr rfl
set_option maxHeartbeats 4000000 in
theorem takeFirst_low {B d : Nat} {w0 w : World} {v : Value} {l : List UInt8} (h : Dc B d w0 w v l) (b : UInt8) (hb : b.toNat < 128) :
    Calls Tryd.prog 27 #[.pointer (some ⟨d, 0, none⟩), .int .u8 b.toNat] w (Tk B d w0 w ([], ((loneF b.toNat).1, (loneF b.toNat).2 + (behindF l).2))) := by
  obtain ⟨W, Z, hW, hZ, HZ, HW, k0, k1, f0, f1⟩ := key_new w
  have HBw : Hid (B ≤ w.heap.size) := h.bw
  have hd := h.more HZ.out.below
  have HFW : Hid (Ft d w W) := Ft.of HZ.out.below
  have HdZ : Hid (Z ≠ d) := by have := lt_block h.blk; show _ ≠ _; omega
  have HBe := hidK (behind_any hd)
  have HDr := hidK (drop_any hd)
  obtain ⟨n, hn⟩ : ∃ n, b.toNat = n := ⟨_, rfl⟩
  rw [hn] at hb
  have HLo := hidK (lone_any n hb)
  obtain ⟨x, hx⟩ : ∃ x, (loneF n).1 = x := ⟨_, rfl⟩
  obtain ⟨y, hy⟩ : ∃ y, (loneF n).2 = y := ⟨_, rfl⟩
  obtain ⟨m, hm⟩ : ∃ m, (behindF l).2 = m := ⟨_, rfl⟩
  have HWm : Hid (∀ X, Calls Tryd.prog 13 #[.agg #[.int .i64 x, .int .i64 y], .int .i64 m] X fun e w' => e = .returned (.agg #[.int .i64 x, .int .i64 (y + m)]) ∧ Below X.heap.size X w') := withMods_any x y m _ (by
    have h1 := lone_mods n
    have h2 := behind_mods l
    rw [hm] at h2
    rw [hy] at h1
    rcases h2 with e | e
    · subst e; exact or_zero h1
    · subst e; exact or_two h1)
  rw [hx, hy] at HLo
  rw [hm] at HBe
  rw [hn, hx, hy, hm]
  have i1 : ¬ (128 : Int) ≤ (n : Int) := by omega
  clear h hd hn hx hy hm hb
  go_enter Tryd.func27, Tryd.ntmps27
  go_wp2_with fail
  refine HBe.out.mono ?_
  rintro e w2 ⟨⟨ad, k, c, rfl, hs⟩, rfl⟩
  clear hs
  go_wp2_with fail
  refine HDr.out.mono ?_
  rintro e w5 ⟨rfl, ⟨v5, hd5⟩, hf5⟩
  have hz5 : w5.heap[Z]? = some (.cells #[.int .i64 0, .int .i64 0] 36 (0, 0)) := hf5 _ _ _ _ HZ.out.key (by decide) HdZ.out
  have HZ5 := hidK hz5
  have HD5 := hidK hd5
  have HF5 := hidK (HFW.out.trans hf5)
  clear hz5 hd5 hf5 k0 k1 f0 f1
  go_wp2_with fail
  refine (HLo.out _).mono ?_
  rintro e w6 ⟨rfl, hb6⟩
  have HB6 := hidK hb6
  clear hb6
  go_wp2_with fail
  refine (HWm.out _).mono ?_
  rintro e w7 ⟨rfl, hb7'⟩
  have hb7 := below_step HB6.out hb7'
  have hz7 : w7.heap[Z]? = some (.cells #[.int .i64 0, .int .i64 0] 36 (0, 0)) := (hb7.block Z (lt_block HZ5.out)).trans HZ5.out
  have HZ7 := hidK hz7
  have HD7 := hidK (HD5.out.more hb7)
  have HF7 := hidK (HF5.out.trans (Ft.of hb7))
  have z0 : w7.cell? ⟨Z, 0, none⟩ = some (.int .i64 0) := cell_at hz7 0
  have z1 : w7.cell? ⟨Z, 1, none⟩ = some (.int .i64 0) := cell_at hz7 1
  have z2 : w7.frozen? ⟨Z, 0, none⟩ = false := free_at hz7 0
  have z3 : w7.frozen? ⟨Z, 1, none⟩ = false := free_at hz7 1
  clear hz7 hb7 hb7'
  go_wp2_with fail
  refine dc_end rfl rfl HZ7.out (Nat.le_trans HBw.out HW.out) HD7.out HF7.out HW.out rfl rfl ?_
  intro X hX hX2
  exact ⟨rfl, ⟨_, hX⟩, hX2⟩
set_option maxHeartbeats 4000000 in
theorem takeFirst_high {B d : Nat} {w0 w : World} {v : Value} {l : List UInt8} (h : Dc B d w0 w v l) (b : UInt8) (hb : ¬ b.toNat < 128) {st : St}
    (hC : ∀ W v1, Dc B d w0 W v1 l → Calls Tryd.prog 28 #[.pointer (some ⟨d, 0, none⟩), .int .u8 b.toNat] W (Tk B d w0 W st)) :
    Calls Tryd.prog 27 #[.pointer (some ⟨d, 0, none⟩), .int .u8 b.toNat] w (Tk B d w0 w st) := by
  obtain ⟨W, Z, hW, hZ, HZ, HW, k0, k1, f0, f1⟩ := key_new w
  have HBw : Hid (B ≤ w.heap.size) := h.bw
  have hd := h.more HZ.out.below
  have HFW : Hid (Ft d w W) := Ft.of HZ.out.below
  have HdZ : Hid (Z ≠ d) := by have := lt_block h.blk; show _ ≠ _; omega
  have HC := hidK (hC W v hd)
  obtain ⟨n, hn⟩ : ∃ n, b.toNat = n := ⟨_, rfl⟩
  rw [hn] at hb HC
  rw [hn]
  have i1 : (128 : Int) ≤ (n : Int) := by omega
  clear h hd hn hb hC
  go_enter Tryd.func27, Tryd.ntmps27
  go_wp2_with fail
  refine HC.out.mono ?_
  rintro e w5 ⟨rfl, ⟨v5, hd5⟩, hf5⟩
  have hz5 : w5.heap[Z]? = some (.cells #[.int .i64 0, .int .i64 0] 36 (0, 0)) := hf5 _ _ _ _ HZ.out.key (by decide) HdZ.out
  have HZ5 := hidK hz5
  have HD5 := hidK hd5
  have HF5 := hidK (HFW.out.trans hf5)
  have z0 : w5.cell? ⟨Z, 0, none⟩ = some (.int .i64 0) := cell_at hz5 0
  have z1 : w5.cell? ⟨Z, 1, none⟩ = some (.int .i64 0) := cell_at hz5 1
  have z2 : w5.frozen? ⟨Z, 0, none⟩ = false := free_at hz5 0
  have z3 : w5.frozen? ⟨Z, 1, none⟩ = false := free_at hz5 1
  clear hz5 hd5 hf5 k0 k1 f0 f1
  go_wp2_with fail
  refine dc_end rfl rfl HZ5.out (Nat.le_trans HBw.out HW.out) HD5.out HF5.out HW.out rfl rfl ?_
  intro X hX hX2
  exact ⟨rfl, ⟨_, hX⟩, hX2⟩
end Go.Proofs.YtnehkokppobncaaDoor
