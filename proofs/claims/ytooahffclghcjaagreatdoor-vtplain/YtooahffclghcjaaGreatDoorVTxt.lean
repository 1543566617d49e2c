/-
  The text of a row of blanks.
-/
import Derived.Test.YtooahffclghcjaaGreatDoorVBld
namespace Go.Proofs.YtooahffclghcjaaGreatDoor
open Go.RowKit
set_option linter.unusedVariables false
set_option maxRecDepth 100000

theorem BuilderIn.below {w w' : World} {B b o : Nat} {T : TypeId} {cs : Array Value} {v : Value} {l : List UInt8} (h : BuilderIn w B b o T cs v l) (hb : Below w.heap.size w w') : BuilderIn w' B b o T cs v l :=
  ⟨(hb.block b (lt_block h.blk)).trans h.blk, h.adr, h.buf, h.own.keep fun g hg => by
    rcases h.own.2 with ⟨e, _⟩ | ⟨g', cap, cur, e, _, hk, _⟩
    · rw [e] at hg; cases hg
    · rw [e] at hg; cases hg
      exact hb.block _ (lt_block hk), h.ty, h.lies⟩
theorem BuilderIn.young {w : World} {B b o : Nat} {T : TypeId} {cs : Array Value} {v : Value} {l : List UInt8} (h : BuilderIn w B b o T cs v l) {g : Nat} (hg : v.ownBlock = some g) : B ≤ g := by
  rcases h.own.2 with ⟨e, _⟩ | ⟨g', cap, cur, e, hb, _⟩
  · rw [e] at hg; cases hg
  · rw [e] at hg; cases hg
    exact hb
/-- Blanks that are gathered. -/
structure Bd (w wr : World) (B k : Nat) (cs : Array Value) (v : Value) : Prop where
  below : Below w.heap.size w wr
  bld : BuilderIn wr w.heap.size B 0 101 cs v (List.replicate k 32)
  nil : k = 0 → v = .slice none 0 0
theorem Bd.more {w wr w' : World} {B k : Nat} {cs : Array Value} {v : Value} (h : Bd w wr B k cs v) (hb : Below wr.heap.size wr w') : Bd w w' B k cs v := ⟨h.below.trans (hb.mono h.below.size), h.bld.below hb, h.nil⟩
theorem trim_blanks (n : Nat) : Lib.trimRightB (List.replicate n 32) 32 = [] := by
  unfold Lib.trimRightB
  rw [List.reverse_replicate]
  induction n with
  | zero => rfl
  | succ n ih => rw [List.replicate_succ, List.dropWhile_cons_of_pos (by rfl)]; exact ih
set_option maxHeartbeats 4000000 in
theorem text_blank {w : World} {g n : Nat} (hn : n ≤ 1000) (cap : Nat) (h : GAt w g (List.replicate n ⟨32, 1, 0, 0, 0⟩)) : Calls Tryz.prog 23 #[.slice (some ⟨g, 0, none⟩) n cap] w fun e w' => e = .returned (.string ⟨#[]⟩) ∧ Below w.heap.size w w' := by
  have H := hidK h
  obtain ⟨W, hW⟩ : ∃ W, w.alloc (.cells #[.pointer none, .slice none 0 0] 101) = W := ⟨_, rfl⟩
  have HW := hidK hW
  obtain ⟨B, hB⟩ : ∃ B, w.heap.size = B := ⟨_, rfl⟩
  have HB := hidK hB
  have H0 : Hid (Bd w W B 0 #[.pointer none, .slice none 0 0] (.slice none 0 0)) := by
    refine ⟨by rw [← hW]; exact (Below.refl _ _).alloc (Nat.le_refl _) _, ⟨by rw [← hW, ← hB]; exact heap_alloc_new w _, .inl rfl, rfl, ⟨rfl, .inl ⟨rfl, rfl⟩⟩, by decide, by kernel_rfl⟩, fun _ => rfl⟩
  have HRi : Hid (∀ W, Calls Tryz.prog 43 #[.agg #[.int .i32 32, .int .i64 1, .int .i64 0, .int .i64 0, .int .i64 0]] W fun r w' => r = .returned (.bool false) ∧ Below W.heap.size W w') := isRight_no ⟨32, 1, 0, 0, 0⟩ (by decide)
  clear hW hB h
  go_enter Tryz.func23, Tryz.ntmps23
  go_wp2_with fail
  rw [HW.out, HB.out]
  go_loopw [8] (fun i wr => ∃ k : Nat, k ≤ n ∧ i = .int .i64 (k : Int) ∧ Hid (∃ cs v, Bd w wr B k cs v)) (fun i _ => n - (intOf i).toNat)
  case atStart => exact ⟨0, Nat.zero_le _, rfl, _, _, H0.out⟩
  case round =>
    obtain ⟨k, hk, rfl, HM⟩ := hrel
    obtain ⟨cs, v, hM⟩ := HM.out
    have HM2 := hidK hM
    clear HM hM
    by_cases hlt : k < n
    · have hg : GAt wr g (List.replicate n ⟨32, 1, 0, 0, 0⟩) := H.out.keep (HM2.out.below.block g H.out.lt)
      obtain ⟨x0, x1, x2, x3, x4⟩ := hg.c (i := k) (x := ⟨32, 1, 0, 0, 0⟩) (by rw [List.getElem?_replicate, if_pos hlt])
      simp only at x0 x1 x2 x3 x4
      obtain ⟨Y, hY⟩ : ∃ Y, wr.alloc (.cells #[.int .i32 32, .int .i64 1, .int .i64 0, .int .i64 0, .int .i64 0] 85) = Y := ⟨_, rfl⟩
      have HY := hidK hY
      obtain ⟨Q, hQ⟩ : ∃ Q, wr.heap.size = Q := ⟨_, rfl⟩
      have HQ := hidK hQ
      have HBY : Hid (Below wr.heap.size wr Y) := by rw [← hY]; exact (Below.refl _ _).alloc (Nat.le_refl _) _
      have hqb : Y.heap[Q]? = some (.cells #[.int .i32 32, .int .i64 1, .int .i64 0, .int .i64 0, .int .i64 0] 85 (0, 0)) := by rw [← hY, ← hQ]; exact heap_alloc_new wr _
      have HQb := hidK hqb
      obtain ⟨y0, y1, y2, y3, y4⟩ := box_cells (x := ⟨32, 1, 0, 0, 0⟩) hqb
      simp only at y0 y1 y2 y3 y4
      clear hg hY hQ hqb
      go_wp2_with fail
      rw [HY.out, HQ.out]
      refine (HRi.out _).mono ?_
      rintro e w1 ⟨rfl, hb1⟩
      have HM1 : Hid (Bd w w1 B k cs v) := (HM2.out.more HBY.out).more hb1
      have z0 : w1.cell? ⟨Q, 0, none⟩ = some (.int .i32 32) := cell_atT ((hb1.block Q (lt_of_block HQb.out)).trans HQb.out) 0
      have HWr : Hid (Calls Tryz.prog 44 #[.pointer (some ⟨B, 0, none⟩), .int .i32 32] w1 fun e w' => (∃ r, e = .returned r) ∧ ∃ v', BuilderIn w' w.heap.size B 0 101 ((cs.set! 0 (.pointer (some ⟨B, 0, none⟩))).set! (0 + 1) v') v' (List.replicate k 32 ++ [32]) ∧ But (B :: v.ownBlock.toList) w1 w') := writeRune_blank HM1.out.bld HM1.out.below.size (by simp; omega)
      clear hb1 x0 x1 x2 x3 x4 y0 y1 y2 y3 y4
      go_wp2_with fail
      refine HWr.out.mono ?_
      rintro e w2 ⟨⟨r, rfl⟩, v', hb2, hbut⟩
      have H2 := hidK (And.intro hb2 hbut)
      clear hb2 hbut z0
      go_wp2_with fail
      go_roundw
      case rel =>
        refine ⟨k + 1, by omega, by go_num, _, v', H2.out.2.under HM1.out.below HM1.out.below.size (fun q hq => ?_), by rw [List.replicate_succ']; exact H2.out.1, fun h => by omega⟩
        have hB1 := HB.out
        rcases List.mem_cons.1 hq with e | e
        · omega
        · exact HM1.out.bld.young (by simpa using e)
      case measure => simp [intOf]; omega
    · obtain rfl : k = n := by omega
      have HS : Hid (Calls Tryz.prog 46 #[.pointer (some ⟨B, 0, none⟩)] wr fun e w' => e = .returned (.string (str (List.replicate k 32))) ∧ w'.heap[B]? = some (.cells cs 101 (0, 0)) ∧ But v.ownBlock.toList wr w') := string_in HM2.out.bld (fun h => HM2.out.nil (by simpa using h))
      have HT : Hid (∀ W, Calls Tryz.prog 45 #[.string (str (List.replicate k 32)), .string ⟨#[32]⟩] W fun e w' => e = .returned (.string ⟨#[]⟩) ∧ w' = W) := fun W => (Tryz.strings_TrimRight_one (str (List.replicate k 32)) 32 (by decide) W (by simp [str, ByteArray.size]; omega)).mono (by
        rintro e w' ⟨rfl, rfl⟩
        refine ⟨?_, rfl⟩
        rw [show (str (List.replicate k 32)).data.toList = List.replicate k 32 from rfl, trim_blanks])
      go_wp2_with fail
      refine HS.out.mono ?_
      rintro e w1 ⟨rfl, _, hbut⟩
      have HU := hidK hbut
      clear hbut
      go_wp2_with fail
      refine (HT.out _).mono ?_
      rintro e w2 ⟨rfl, rfl⟩
      go_wp2_with fail
      go_ret
      exact ⟨rfl, HU.out.under HM2.out.below HM2.out.below.size (fun q hq => HM2.out.bld.young (by simpa using hq))⟩
end Go.Proofs.YtooahffclghcjaaGreatDoor
