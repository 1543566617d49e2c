/-
  Keys: a byte, whatever is held.
-/
import Derived.Test.YtghepjjfdaecgaaDoorKTakC
namespace Go.Proofs.YtghepjjfdaecgaaDoor
open Go.RowKit
set_option linter.unusedVariables false
set_option maxRecDepth 100000

theorem full_one (b : UInt8) (h : ¬ b.toNat < 128) : fullB [b] = true → (dec [b]).2 = 1 := by
  intro _
  have h0 : (str [b]).size = 1 := rfl
  unfold dec
  rw [if_neg (by rw [h0]; decide), Lib.decode_at]
  simp only [h0, Lib.decodeN]
  rw [if_neg (by simpa [str, ByteArray.get!] using h)]
  split
  · rename_i q; omega
  · split
    · rename_i q; omega
    · split
      · rename_i q; omega
      · rfl
theorem behind_one {b : UInt8} (h : b ≠ 27) : behindF [b] = ([b], 0) := behind_not h []
/-- With nothing held. -/
theorem take0_any {B d : Nat} {w0 w : World} {v : Value} (h : Dc B d w0 w v []) (hT : Tabs w0) (b : UInt8) : Calls Tryd.prog 25 #[.pointer (some ⟨d, 0, none⟩), .int .u8 b.toNat] w (Tk B d w0 w (take0 b)) := by
  by_cases h27 : b = 27
  · exact take_e h b h27 (by subst h27; rfl)
  · refine take_none h b h27 fun W v1 hd => ?_
    by_cases hb : b.toNat < 128
    · have e : take0 b = ([], ((loneF b.toNat).1, (loneF b.toNat).2 + (behindF []).2)) := by
        unfold take0
        rw [if_neg h27, if_pos hb]
        show _ = ([], ((loneF b.toNat).1, (loneF b.toNat).2 + 0))
        rw [Int.add_zero]
      rw [e]
      exact takeFirst_low hd b hb
    · refine takeFirst_high hd b hb fun W2 v2 hd2 => ?_
      have hbe : behindF ([] ++ [b]) = ([b], 0) := behind_one h27
      have e : take0 b = chF [] b := by
        unfold take0 chF
        rw [if_neg h27, if_neg hb]
        simp only [hbe]
        cases hf : fullB [b] with
        | false => rfl
        | true =>
          have h1 := full_one b hb hf
          simp [h1]
      rw [e]
      refine takeCharacter_of hd2 hT (by simp) b (by rw [hbe]; simp) ?_
      rw [hbe]
      intro hf hlt
      have h1 := full_one b hb hf
      rw [h1] at hlt
      simp at hlt
set_option maxHeartbeats 4000000 in
theorem again_any {B d : Nat} {w0 w : World} {v : Value} {l : List UInt8} (h : Dc B d w0 w v l) (hT : Tabs w0) (b : UInt8) : Calls Tryd.prog 66 #[.pointer (some ⟨d, 0, none⟩), .int .u8 b.toNat] w (Tk B d w0 w (take0 b)) := by
  obtain ⟨W, Z, hW, hZ, HZ, HW, k0, k1, f0, f1⟩ := key_new w
  have HBw : Hid (B ≤ w.heap.size) := h.bw
  have hd := h.more HZ.out.below
  have HFW : Hid (Ft d w W) := Ft.of HZ.out.below
  have HdZ : Hid (Z ≠ d) := by have := lt_block h.blk; show _ ≠ _; omega
  have HDr := hidK (drop_any hd)
  obtain ⟨st, hst⟩ : ∃ st, take0 b = st := ⟨_, rfl⟩
  have HTk : Hid (∀ X v', Dc B d w0 X v' [] → Calls Tryd.prog 25 #[.pointer (some ⟨d, 0, none⟩), .int .u8 b.toNat] X (Tk B d w0 X st)) := fun X v' hX => by rw [← hst]; exact take0_any hX hT b
  obtain ⟨n, hn⟩ : ∃ n, b.toNat = n := ⟨_, rfl⟩
  rw [hn] at HTk
  rw [hn, hst]
  clear h hd hn hst hT
  go_enter Tryd.func66, Tryd.ntmps66
  go_wp2_with fail
  refine HDr.out.mono ?_
  rintro e w4 ⟨rfl, ⟨v4, hd4⟩, hf4⟩
  have HT4 := hidK (HTk.out _ _ hd4)
  have HF4 := hidK hf4
  clear hd4 hf4 HTk
  go_wp2_with fail
  refine HT4.out.mono ?_
  rintro e w5 ⟨rfl, ⟨v5, hd5⟩, hf5⟩
  have hz5 : w5.heap[Z]? = some (.cells #[.int .i64 0, .int .i64 0] 30 (0, 0)) := hf5 _ _ _ _ (HF4.out _ _ _ _ HZ.out.key (by decide) HdZ.out) (by decide) HdZ.out
  have HZ5 := hidK hz5
  have HD5 := hidK hd5
  have HF5 := hidK ((HFW.out.trans HF4.out).trans hf5)
  have z0 : w5.cell? ⟨Z, 0, none⟩ = some (.int .i64 0) := cell_at hz5 0
  have z1 : w5.cell? ⟨Z, 1, none⟩ = some (.int .i64 0) := cell_at hz5 1
  have z2 : w5.frozen? ⟨Z, 0, none⟩ = false := free_at hz5 0
  have z3 : w5.frozen? ⟨Z, 1, none⟩ = false := free_at hz5 1
  clear hz5 hd5 hf5 k0 k1 f0 f1
  go_wp2_with fail
  refine dc_end rfl rfl HZ5.out (Nat.le_trans HBw.out HW.out) HD5.out HF5.out HW.out rfl rfl ?_
  intro X hX hX2
  exact ⟨rfl, ⟨_, hX⟩, hX2⟩
theorem takeCharacter_any {B d : Nat} {w0 w : World} {v : Value} {l : List UInt8} (h : Dc B d w0 w v l) (hT : Tabs w0) (hl : l.length ≤ 999) (b : UInt8) (hne : (behindF (l ++ [b])).1 ≠ []) :
    Calls Tryd.prog 55 #[.pointer (some ⟨d, 0, none⟩), .int .u8 b.toNat] w (Tk B d w0 w (chF l b)) :=
  takeCharacter_of h hT hl b hne fun _ _ W v1 hd => again_any hd hT b
/-- Behind ESC and [. -/
def seqT (l : List UInt8) (b : UInt8) : St :=
  if b.toNat < 32 ∨ 127 ≤ b.toNat then take0 b
  else if b.toNat < 64 then (if l.length + 1 = 256 then ([], (0, 0)) else (l ++ [b], (0, 0)))
  else ([], inSeqF (l.drop 2) [b])
set_option maxHeartbeats 4000000 in
theorem seq_again {B d : Nat} {w0 w : World} {v : Value} {l : List UInt8} (h : Dc B d w0 w v l) (hT : Tabs w0) (b : UInt8) (hb : b.toNat < 32 ∨ 127 ≤ b.toNat) : Calls Tryd.prog 51 #[.pointer (some ⟨d, 0, none⟩), .int .u8 b.toNat] w (Tk B d w0 w (take0 b)) := by
  obtain ⟨W, Z, hW, hZ, HZ, HW, k0, k1, f0, f1⟩ := key_new w
  have HBw : Hid (B ≤ w.heap.size) := h.bw
  have hd := h.more HZ.out.below
  have HFW : Hid (Ft d w W) := Ft.of HZ.out.below
  have HdZ : Hid (Z ≠ d) := by have := lt_block h.blk; show _ ≠ _; omega
  obtain ⟨st, hst⟩ : ∃ st, take0 b = st := ⟨_, rfl⟩
  have HC := hidK (again_any hd hT b)
  obtain ⟨n, hn⟩ : ∃ n, b.toNat = n := ⟨_, rfl⟩
  rw [hn, hst] at HC
  rw [hn] at hb
  rw [hn, hst]
  clear h hd hn hst hT
  rcases (by omega : (n : Int) < 32 ∨ (¬ (n : Int) < 32 ∧ (127 : Int) ≤ (n : Int))) with i1 | ⟨i1, i2⟩ <;>
  · clear hb
    go_enter Tryd.func51, Tryd.ntmps51
    go_wp2_with fail
    refine HC.out.mono ?_
    rintro e w5 ⟨rfl, ⟨v5, hd5⟩, hf5⟩
    have hz5 : w5.heap[Z]? = some (.cells #[.int .i64 0, .int .i64 0] 30 (0, 0)) := hf5 _ _ _ _ HZ.out.key (by decide) HdZ.out
    have HZ5 := hidK hz5
    have HD5 := hidK hd5
    have HF5 := hidK (HFW.out.trans hf5)
    have z0 : w5.cell? ⟨Z, 0, none⟩ = some (.int .i64 0) := cell_at hz5 0
    have z1 : w5.cell? ⟨Z, 1, none⟩ = some (.int .i64 0) := cell_at hz5 1
    have z2 : w5.frozen? ⟨Z, 0, none⟩ = false := free_at hz5 0
    have z3 : w5.frozen? ⟨Z, 1, none⟩ = false := free_at hz5 1
    clear hz5 hd5 hf5 k0 k1 f0 f1
    go_wp2_with fail
    refine dc_end rfl rfl HZ5.out (Nat.le_trans HBw.out HW.out) HD5.out HF5.out HW.out rfl rfl ?_
    intro X hX hX2
    exact ⟨rfl, ⟨_, hX⟩, hX2⟩
theorem Dc.len {B d : Nat} {w0 w : World} {v : Value} {l : List UInt8} (h : Dc B d w0 w v l) : ∃ a c, v = .slice a l.length c ∧ (l ≠ [] → ∃ g, a = some ⟨g, 0, none⟩ ∧ l.length ≤ c) := by
  rcases h.own.2 with ⟨rfl, h0⟩ | ⟨g, cap, cur, rfl, hb, hg, h1, h2, h3, h4⟩
  · have : l = [] := List.length_eq_zero_iff.1 h0
    subst this
    exact ⟨_, _, rfl, fun h => absurd rfl h⟩
  · exact ⟨_, _, rfl, fun _ => ⟨g, rfl, h1⟩⟩
set_option maxHeartbeats 4000000 in
theorem seq_hold {B d : Nat} {w0 w : World} {v : Value} {l : List UInt8} (h : Dc B d w0 w v l) (hl : l.length ≤ 999) (b : UInt8) (h32 : 32 ≤ b.toNat) (h64 : b.toNat < 64) {st : St} (hst : (if l.length + 1 = 256 then ([], (0, 0)) else (l ++ [b], (0, 0))) = st) : Calls Tryd.prog 51 #[.pointer (some ⟨d, 0, none⟩), .int .u8 b.toNat] w (Tk B d w0 w st) := by
  obtain ⟨W, Z, hW, hZ, HZ, HW, k0, k1, f0, f1⟩ := key_new w
  have HBw : Hid (B ≤ w.heap.size) := h.bw
  have hd := h.more HZ.out.below
  have HFW : Hid (Ft d w W) := Ft.of HZ.out.below
  have HdZ : Hid (Z ≠ d) := by have := lt_block h.blk; show _ ≠ _; omega
  have HHo := hidK (hold_any hd (by omega) b)
  obtain ⟨n, hn⟩ : ∃ n, b.toNat = n := ⟨_, rfl⟩
  obtain ⟨l', hl'⟩ : ∃ l', l ++ [b] = l' := ⟨_, rfl⟩
  obtain ⟨N, hN⟩ : ∃ N, l'.length = N := ⟨_, rfl⟩
  have hN2 : N = l.length + 1 := by rw [← hN, ← hl']; simp
  rw [hl'] at HHo hst
  rw [← hN2] at hst
  rw [hn] at HHo h32 h64 ⊢
  have i1 : ¬ (n : Int) < 32 := by omega
  have i2 : ¬ (127 : Int) ≤ (n : Int) := by omega
  have i3 : (n : Int) < 64 := by omega
  have HN := hidK hN
  clear h hd hn h32 h64 hN2 hl' hl hN
  go_enter Tryd.func51, Tryd.ntmps51
  go_wp2_with fail
  refine HHo.out.mono ?_
  rintro e w4 ⟨rfl, ⟨v4, hd4⟩, hf4⟩
  obtain ⟨a4, c4, e4, _⟩ := hd4.len
  have HD4 := hidK hd4
  have HDr := hidK (drop_any hd4)
  have c4 := hd4.cell
  rw [e4, HN.out] at c4
  have hz4 : w4.heap[Z]? = some (.cells #[.int .i64 0, .int .i64 0] 30 (0, 0)) := hf4 _ _ _ _ HZ.out.key (by decide) HdZ.out
  have HZ4 := hidK hz4
  have HF4 := hidK (HFW.out.trans hf4)
  have z0 : w4.cell? ⟨Z, 0, none⟩ = some (.int .i64 0) := cell_at hz4 0
  have z1 : w4.cell? ⟨Z, 1, none⟩ = some (.int .i64 0) := cell_at hz4 1
  have z2 : w4.frozen? ⟨Z, 0, none⟩ = false := free_at hz4 0
  have z3 : w4.frozen? ⟨Z, 1, none⟩ = false := free_at hz4 1
  clear hz4 hd4 hf4 k0 k1 f0 f1 e4
  by_cases h256 : N = 256
  · have i4 : ((N : Int) == 256) = true := by simp; omega
    have i5 : (N : Int) = 256 := by omega
    have HS := hidK hst
    rw [if_pos h256] at HS
    clear hst h256
    go_wp2_with fail
    refine HDr.out.mono ?_
    rintro e w5 ⟨rfl, ⟨v5, hd5⟩, hf5⟩
    have hz5 : w5.heap[Z]? = some (.cells #[.int .i64 0, .int .i64 0] 30 (0, 0)) := hf5 _ _ _ _ HZ4.out (by decide) HdZ.out
    have HZ5 := hidK hz5
    have HD5 := hidK hd5
    have HF5 := hidK (HF4.out.trans hf5)
    have y0 : w5.cell? ⟨Z, 0, none⟩ = some (.int .i64 0) := cell_at hz5 0
    have y1 : w5.cell? ⟨Z, 1, none⟩ = some (.int .i64 0) := cell_at hz5 1
    have y2 : w5.frozen? ⟨Z, 0, none⟩ = false := free_at hz5 0
    have y3 : w5.frozen? ⟨Z, 1, none⟩ = false := free_at hz5 1
    clear hz5 hd5 hf5 z0 z1 z2 z3 c4
    go_wp2_with fail
    refine dc_end rfl rfl HZ5.out (Nat.le_trans HBw.out HW.out) HD5.out HF5.out HW.out rfl rfl ?_
    intro X hX hX2
    rw [← HS.out]
    exact ⟨rfl, ⟨_, hX⟩, hX2⟩
  · have i4 : ((N : Int) == 256) = false := by simp; omega
    have HS := hidK hst
    rw [if_neg h256] at HS
    clear hst h256
    go_wp2_with fail
    refine dc_end rfl rfl HZ4.out (Nat.le_trans HBw.out HW.out) HD4.out HF4.out HW.out rfl rfl ?_
    intro X hX hX2
    rw [← HS.out]
    exact ⟨rfl, ⟨_, hX⟩, hX2⟩
end Go.Proofs.YtghepjjfdaecgaaDoor
