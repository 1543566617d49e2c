/-
  Keys: the first byte of a key.
-/
import Derived.Test.YtghepjjfdaecgaaDoorKTak
namespace Go.Proofs.YtghepjjfdaecgaaDoor
open Go.RowKit
set_option linter.unusedVariables false
set_option maxRecDepth 100000

theorem lone_mods (b : Nat) : (loneF b).2 = 0 ∨ (loneF b).2 = 4 := by
  unfold loneF
  split
  · exact .inl rfl
  · split
    · exact .inr rfl
    · split <;> exact .inr rfl
set_option maxHeartbeats 4000000 in
theorem takeFirst_low {B d : Nat} {w0 w : World} {v : Value} {l : List UInt8} (h : Dc B d w0 w v l) (b : UInt8) (hb : b.toNat < 128) :
    Calls Tryd.prog 54 #[.pointer (some ⟨d, 0, none⟩), .int .u8 b.toNat] w (Tk B d w0 w ([], ((loneF b.toNat).1, (loneF b.toNat).2 + (behindF l).2))) := by
  obtain ⟨W, Z, hW, hZ, HZ, HW, k0, k1, f0, f1⟩ := key_new w
  have HBw : Hid (B ≤ w.heap.size) := h.bw
  have hd := h.more HZ.out.below
  have HFW : Hid (Ft d w W) := Ft.of HZ.out.below
  have HdZ : Hid (Z ≠ d) := by have := lt_block h.blk; show _ ≠ _; omega
  have HBe := hidK (behind_any hd)
  have HDr := hidK (drop_any hd)
  obtain ⟨n, hn⟩ : ∃ n, b.toNat = n := ⟨_, rfl⟩
  rw [hn] at hb
  have HLo := hidK (lone_any n hb)
  obtain ⟨x, hx⟩ : ∃ x, (loneF n).1 = x := ⟨_, rfl⟩
  obtain ⟨y, hy⟩ : ∃ y, (loneF n).2 = y := ⟨_, rfl⟩
  obtain ⟨m, hm⟩ : ∃ m, (behindF l).2 = m := ⟨_, rfl⟩
  have HWm : Hid (∀ X, Calls Tryd.prog 32 #[.agg #[.int .i64 x, .int .i64 y], .int .i64 m] X fun e w' => e = .returned (.agg #[.int .i64 x, .int .i64 (y + m)]) ∧ Below X.heap.size X w') := withMods_any x y m _ (by
    have h1 := lone_mods n
    have h2 := behind_mods l
    rw [hm] at h2
    rw [hy] at h1
    rcases h2 with e | e
    · subst e; exact or_zero h1
    · subst e; exact or_two h1)
  rw [hx, hy] at HLo
  rw [hm] at HBe
  rw [hn, hx, hy, hm]
  have i1 : ¬ (128 : Int) ≤ (n : Int) := by omega
  clear h hd hn hx hy hm hb
  go_enter Tryd.func54, Tryd.ntmps54
  go_wp2_with fail
  refine HBe.out.mono ?_
  rintro e w2 ⟨⟨ad, k, c, rfl, hs⟩, rfl⟩
  clear hs
  go_wp2_with fail
  refine HDr.out.mono ?_
  rintro e w5 ⟨rfl, ⟨v5, hd5⟩, hf5⟩
  have hz5 : w5.heap[Z]? = some (.cells #[.int .i64 0, .int .i64 0] 30 (0, 0)) := hf5 _ _ _ _ HZ.out.key (by decide) HdZ.out
  have HZ5 := hidK hz5
  have HD5 := hidK hd5
  have HF5 := hidK (HFW.out.trans hf5)
  clear hz5 hd5 hf5 k0 k1 f0 f1
  go_wp2_with fail
  refine (HLo.out _).mono ?_
  rintro e w6 ⟨rfl, hb6⟩
  have HB6 := hidK hb6
  clear hb6
  go_wp2_with fail
  refine (HWm.out _).mono ?_
  rintro e w7 ⟨rfl, hb7'⟩
  have hb7 := below_step HB6.out hb7'
  have hz7 : w7.heap[Z]? = some (.cells #[.int .i64 0, .int .i64 0] 30 (0, 0)) := (hb7.block Z (lt_block HZ5.out)).trans HZ5.out
  have HZ7 := hidK hz7
  have HD7 := hidK (HD5.out.more hb7)
  have HF7 := hidK (HF5.out.trans (Ft.of hb7))
  have z0 : w7.cell? ⟨Z, 0, none⟩ = some (.int .i64 0) := cell_at hz7 0
  have z1 : w7.cell? ⟨Z, 1, none⟩ = some (.int .i64 0) := cell_at hz7 1
  have z2 : w7.frozen? ⟨Z, 0, none⟩ = false := free_at hz7 0
  have z3 : w7.frozen? ⟨Z, 1, none⟩ = false := free_at hz7 1
  clear hz7 hb7 hb7'
  go_wp2_with fail
  refine dc_end rfl rfl HZ7.out (Nat.le_trans HBw.out HW.out) HD7.out HF7.out HW.out rfl rfl ?_
  intro X hX hX2
  exact ⟨rfl, ⟨_, hX⟩, hX2⟩
set_option maxHeartbeats 4000000 in
theorem takeFirst_high {B d : Nat} {w0 w : World} {v : Value} {l : List UInt8} (h : Dc B d w0 w v l) (b : UInt8) (hb : ¬ b.toNat < 128) {st : St}
    (hC : ∀ W v1, Dc B d w0 W v1 l → Calls Tryd.prog 55 #[.pointer (some ⟨d, 0, none⟩), .int .u8 b.toNat] W (Tk B d w0 W st)) :
    Calls Tryd.prog 54 #[.pointer (some ⟨d, 0, none⟩), .int .u8 b.toNat] w (Tk B d w0 w st) := by
  obtain ⟨W, Z, hW, hZ, HZ, HW, k0, k1, f0, f1⟩ := key_new w
  have HBw : Hid (B ≤ w.heap.size) := h.bw
  have hd := h.more HZ.out.below
  have HFW : Hid (Ft d w W) := Ft.of HZ.out.below
  have HdZ : Hid (Z ≠ d) := by have := lt_block h.blk; show _ ≠ _; omega
  have HC := hidK (hC W v hd)
  obtain ⟨n, hn⟩ : ∃ n, b.toNat = n := ⟨_, rfl⟩
  rw [hn] at hb HC
  rw [hn]
  have i1 : (128 : Int) ≤ (n : Int) := by omega
  clear h hd hn hb hC
  go_enter Tryd.func54, Tryd.ntmps54
  go_wp2_with fail
  refine HC.out.mono ?_
  rintro e w5 ⟨rfl, ⟨v5, hd5⟩, hf5⟩
  have hz5 : w5.heap[Z]? = some (.cells #[.int .i64 0, .int .i64 0] 30 (0, 0)) := hf5 _ _ _ _ HZ.out.key (by decide) HdZ.out
  have HZ5 := hidK hz5
  have HD5 := hidK hd5
  have HF5 := hidK (HFW.out.trans hf5)
  have z0 : w5.cell? ⟨Z, 0, none⟩ = some (.int .i64 0) := cell_at hz5 0
  have z1 : w5.cell? ⟨Z, 1, none⟩ = some (.int .i64 0) := cell_at hz5 1
  have z2 : w5.frozen? ⟨Z, 0, none⟩ = false := free_at hz5 0
  have z3 : w5.frozen? ⟨Z, 1, none⟩ = false := free_at hz5 1
  clear hz5 hd5 hf5 k0 k1 f0 f1
  go_wp2_with fail
  refine dc_end rfl rfl HZ5.out (Nat.le_trans HBw.out HW.out) HD5.out HF5.out HW.out rfl rfl ?_
  intro X hX hX2
  exact ⟨rfl, ⟨_, hX⟩, hX2⟩
end Go.Proofs.YtghepjjfdaecgaaDoor
