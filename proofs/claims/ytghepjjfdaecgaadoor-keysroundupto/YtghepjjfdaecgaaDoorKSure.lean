/-
  Keys: what must come whatever is asked.
-/
import Derived.Test.YtghepjjfdaecgaaDoorKSame
namespace Go.Proofs.YtghepjjfdaecgaaDoor
open Go.RowKit
set_option linter.unusedVariables false
set_option maxRecDepth 100000

theorem nm_len2 {w : World} (hT : Tabs w) : 4 < w.heap.size := World.block_lt_of_cell? w _ (hT.u8.2 0 (by decide)).1
theorem new_dc {w : World} (hT : Tabs w) : Dc (w.alloc (.cells #[.slice none 0 0] 54)).heap.size w.heap.size (w.alloc (.cells #[.slice none 0 0] 54)) (w.alloc (.cells #[.slice none 0 0] 54)) (.slice none 0 0) [] :=
  Dc.fresh w.heap.size (hT.below ((Below.refl _ _).alloc (Nat.le_refl _) _)) (heap_alloc_new w _) (nm_len2 hT)
/-- A decoder that is the call's own, from w on. -/
theorem Fd.under {B d : Nat} {w0 w w1 w' : World} {lv : Value} {l : List UInt8} {ks : List (Int × Int)} {C : Nat} (h : Fd B d w0 w1 w' lv l ks) (hb : Below C w w1) (hw : w0 = w1) (hC : C ≤ B) (hd : C ≤ d) : Below C w w' := by
  subst hw
  obtain ⟨v, hd2⟩ := h.dc
  have ha := hd2.ap
  exact hb.trans ⟨ha.os, ha.tape, ha.output, ha.size, fun k hk => ha.block k (by omega) (by omega)⟩
set_option maxHeartbeats 4000000 in
theorem sure_any {w : World} (hT : Tabs w) : Calls Tryd.prog 14 #[] w fun r w' => r = .returned (.bool true) ∧ Below w.heap.size w w' := by
  have HN := hidK (new_any w)
  obtain ⟨W, hW⟩ : ∃ W, w.alloc (.cells #[.slice none 0 0] 54) = W := ⟨_, rfl⟩
  obtain ⟨d, hd⟩ : ∃ d, w.heap.size = d := ⟨_, rfl⟩
  have hdc := new_dc hT
  rw [hW, hd] at hdc
  have hbW : Below w.heap.size w W := by rw [← hW]; exact (Below.refl _ _).alloc (Nat.le_refl _) _
  have HNm := hidK (name_any 98 4 (hT.below hbW))
  have hnm : str (nameF 98 4) = ⟨#[67, 45, 98]⟩ := by decide
  rw [hnm] at HNm
  rw [hW, hd] at HN
  have HDc := hidK hdc
  have HT := hidK (hT.below hbW)
  have HBW := hidK hbW
  have HSz : Hid (W.heap.size = d + 1) := by show _ = _; rw [← hW, ← hd]; simp
  have HWd : Hid (w.heap.size = d) := hd
  clear hT hdc hbW hnm hW
  go_enter Tryd.func14, Tryd.ntmps14
  go_wp2_with fail
  refine HN.out.mono ?_
  rintro e w1 ⟨rfl, rfl⟩
  go_wp2_with fail
  refine HNm.out.mono ?_
  rintro e w1 ⟨rfl, hb1⟩
  have hd1 := (HDc.out.more hb1).rebase
  have HT1 := HT.out.below hb1
  have HFe := hidK (feed_any hd1 HT1 (by simp) [97, 27, 91, 65, 27] (by simp))
  have hfe : feedF [] [97, 27, 91, 65, 27] = ([27], [(97, 0), (16777217, 0)]) := by decide
  rw [hfe] at HFe
  have HB1 := hidK (below_step HBW.out hb1)
  have HS1 := hidK hb1.size
  clear hd1 HT1 hfe hb1
  go_wp2_with fail
  refine HFe.out.mono ?_
  rintro e w2 ⟨la, rfl, hf2⟩
  obtain ⟨v2, hd2⟩ := hf2.dc
  have HFl := hidK (flush_any hd2.rebase (by simp))
  have hfl : flushF [27] = [(27, 0)] := by decide
  rw [hfl] at HFl
  have HF2 := hidK hf2
  have HD2 := hidK hd2
  obtain ⟨aa, ca, rfl⟩ := hf2.keys.slice
  clear hf2 hd2 hfl
  go_wp2_with fail
  refine HFl.out.mono ?_
  rintro e w3 ⟨lb, rfl, hf3⟩
  have hsa : SeeK w3 (.slice aa 2 ca) [(97, 0), (16777217, 0)] := (HF2.out.keys.ft hf3.ft HD2.out.dtype).see
  have hsb : SeeK w3 lb [(27, 0)] := hf3.keys.see
  have hb3 : Below w.heap.size w w3 := hf3.under (HF2.out.under HB1.out rfl (by have h1 := HSz.out; have h2 := HWd.out; omega) (by have h2 := HWd.out; omega)) rfl (by have h1 := HSz.out; have h2 := HWd.out; omega) (by have h2 := HWd.out; omega)
  have HB3 := hidK hb3
  obtain ⟨ab, cb, rfl⟩ := hf3.keys.slice
  obtain ⟨V, hV⟩ : ∃ V, w3.alloc (.cells #[.int .i64 97, .int .i64 0, .int .i64 16777217, .int .i64 0] 30) = V := ⟨_, rfl⟩
  obtain ⟨Q, hQ⟩ : ∃ Q, w3.heap.size = Q := ⟨_, rfl⟩
  have hbV : Below w3.heap.size w3 V := by rw [← hV]; exact (Below.refl _ _).alloc (Nat.le_refl _) _
  have hlit : SeeK V (.slice (some ⟨Q, 0, none⟩) 2 2) [(97, 0), (16777217, 0)] := SeeK.lit (w := V) (g := Q) (T := 30) [(97, 0), (16777217, 0)] (by rw [← hV, ← hQ]; exact heap_alloc_new w3 _) rfl 2
  have HS1 := hidK (same_any (hsa.below hbV) hlit (by simp) (by simp))
  have hd1 : decide ([((97 : Int), (0 : Int)), (16777217, 0)] = [((97 : Int), (0 : Int)), (16777217, 0)]) = true := by decide
  rw [hd1] at HS1
  have HSB := hidK (hsb.below hbV)
  have HBV := hidK (below_step hb3 hbV)
  clear hf3 hsa hsb hb3 hlit hbV hd1
  go_wp2_with fail
  refine HS1.out.mono ?_
  rintro e w5 ⟨rfl, hb5⟩
  obtain ⟨V2, hV2⟩ : ∃ V2, w5.alloc (.cells #[.int .i64 27, .int .i64 0] 30) = V2 := ⟨_, rfl⟩
  obtain ⟨Q2, hQ2⟩ : ∃ Q2, w5.heap.size = Q2 := ⟨_, rfl⟩
  have hbV2 : Below w5.heap.size w5 V2 := by rw [← hV2]; exact (Below.refl _ _).alloc (Nat.le_refl _) _
  have hlit2 : SeeK V2 (.slice (some ⟨Q2, 0, none⟩) 1 1) [(27, 0)] := SeeK.lit (w := V2) (g := Q2) (T := 30) [(27, 0)] (by rw [← hV2, ← hQ2]; exact heap_alloc_new w5 _) rfl 1
  have HS2 := hidK (same_any ((HSB.out.below hb5).below hbV2) hlit2 (by simp) (by simp))
  have hd2 : decide ([((27 : Int), (0 : Int))] = [((27 : Int), (0 : Int))]) = true := by decide
  rw [hd2] at HS2
  have HB5 := hidK (below_step (below_step HBV.out hb5) hbV2)
  clear hb5 hlit2 hbV2 hd2
  go_wp2_with fail
  refine HS2.out.mono ?_
  rintro e w6 ⟨rfl, hb6⟩
  have HB6 := hidK (below_step HB5.out hb6)
  clear hb6
  go_wp2_with fail
  go_ret
  exact ⟨rfl, by first | exact HB6.out | (rw [← HWd.out]; exact HB6.out)⟩
end Go.Proofs.YtghepjjfdaecgaaDoor
