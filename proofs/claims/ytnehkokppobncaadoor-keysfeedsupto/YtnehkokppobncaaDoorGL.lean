/-
  Keys: two lists compared; what must come.
  Keys: what must come whatever is asked.
  Keys: what is told are keys; what is held is an end of what came.
-/
import Derived.Test.YtnehkokppobncaaDoorGK
namespace Go.Proofs.YtnehkokppobncaaDoor
open Go.RowKit
set_option linter.unusedVariables false
set_option maxRecDepth 100000

/-- Keys that can be read. -/
def SeeK (w : World) (v : Value) (ks : List (Int × Int)) : Prop := ∃ ad c, v = .slice ad ks.length c ∧ (ks ≠ [] → ∃ g o, ad = some ⟨g, o, none⟩ ∧ ∀ j (hj : j < ks.length), w.cell? ⟨g, o + j * 2, none⟩ = some (.int .i64 ks[j].1) ∧ w.cell? ⟨g, o + j * 2 + 1, none⟩ = some (.int .i64 ks[j].2))
theorem SeeK.below {w w' : World} {v : Value} {ks : List (Int × Int)} (h : SeeK w v ks) (hb : Below w.heap.size w w') : SeeK w' v ks := by
  obtain ⟨ad, c, rfl, hc⟩ := h
  refine ⟨ad, c, rfl, fun hl => ?_⟩
  obtain ⟨g, o, rfl, hk⟩ := hc hl
  exact ⟨g, o, rfl, fun j hj => ⟨(hb.cell (World.block_lt_of_cell? w _ (hk j hj).1)).trans (hk j hj).1, (hb.cell (World.block_lt_of_cell? w _ (hk j hj).2)).trans (hk j hj).2⟩⟩
theorem flat_at : ∀ (ks : List (Int × Int)) (j : Nat) (hj : j < ks.length), (ks.flatMap keyV)[j * 2]? = some (.int .i64 ks[j].1) ∧ (ks.flatMap keyV)[j * 2 + 1]? = some (.int .i64 ks[j].2)
  | k :: r, 0, _ => ⟨rfl, rfl⟩
  | k :: r, j + 1, hj => by
    have h := flat_at r j (by simpa using hj)
    rw [show (j + 1) * 2 = j * 2 + 2 by omega, List.flatMap_cons]
    simp only [keyV, List.cons_append, List.nil_append, List.getElem?_cons_succ, List.getElem_cons_succ]
    exact h
theorem KeysAt.see {w : World} {B : Nat} {v : Value} {ks : List (Int × Int)} (h : KeysAt w B v ks) : SeeK w v ks := by
  rcases h.2 with ⟨e, h0⟩ | ⟨g, cap, cur, e, hb, hk, h1, h2, h3, h4⟩
  · have : ks = [] := List.length_eq_zero_iff.1 h0
    subst this
    exact ⟨_, _, e, fun h => absurd rfl h⟩
  · subst e
    refine ⟨_, _, rfl, fun _ => ⟨g, 0, rfl, fun j hj => ?_⟩⟩
    obtain ⟨f1, f2⟩ := flat_at ks j hj
    have g1 := World.ownsRow.cells h (g := g) rfl (j * 2) _ f1
    have g2 := World.ownsRow.cells h (g := g) rfl (j * 2 + 1) _ f2
    rw [addr_add] at g1 g2
    exact ⟨g1, g2⟩
theorem SeeK.lit {w : World} {g n : Nat} {T : TypeId} (ks : List (Int × Int)) (hg : w.heap[g]? = some (.cells (ks.flatMap keyV).toArray T (0, 0))) (hn : ks.length = n) (c : Nat) : SeeK w (.slice (some ⟨g, 0, none⟩) n c) ks := by
  subst hn
  refine ⟨_, _, rfl, fun _ => ⟨g, 0, rfl, fun j hj => ?_⟩⟩
  obtain ⟨f1, f2⟩ := flat_at ks j hj
  rw [cell_at hg, cell_at hg, Nat.zero_add]
  exact ⟨by simpa using f1, by simpa using f2⟩
set_option maxHeartbeats 4000000 in
theorem same_any {w : World} {va vb : Value} {a b : List (Int × Int)} (ha : SeeK w va a) (hb : SeeK w vb b) (hl : a.length ≤ 4000000) (hl2 : b.length ≤ 4000000) : Calls Tryd.prog 9 #[va, vb] w fun r w' => r = .returned (.bool (decide (a = b))) ∧ Below w.heap.size w w' := by
  obtain ⟨aa, ca, rfl, ha⟩ := ha
  obtain ⟨ab, cb, rfl, hb⟩ := hb
  obtain ⟨z, hz⟩ : ∃ z, decide (a = b) = z := ⟨_, rfl⟩
  rw [hz]
  obtain ⟨n, hn⟩ : ∃ n, a.length = n := ⟨_, rfl⟩
  obtain ⟨m, hm⟩ : ∃ m, b.length = m := ⟨_, rfl⟩
  have HA := hidK ha
  have HB := hidK hb
  have HZ := hidK hz
  have HL := hidK (And.intro hn hm)
  rw [hn, hm]
  clear ha hb hz
  by_cases hnm : n = m
  · subst hnm
    rw [hn] at hl
    clear hn hm hl2
    go_enter Tryd.func9, Tryd.ntmps9
    go_wp2_with fail
    go_loopw [5] (fun i wr => ∃ k : Nat, k ≤ n ∧ i = .int .i64 k ∧ Hid (Below w.heap.size w wr) ∧ Hid (a.take k = b.take k)) (fun i _ => n - (intOf i).toNat)
    case atStart => exact ⟨0, Nat.zero_le _, rfl, Below.refl _ _, rfl⟩
    case round =>
      obtain ⟨k, hk, rfl, HW, HT⟩ := hrel
      by_cases hlt : k < n
      · have hka : k < a.length := by rw [HL.out.1]; exact hlt
        have hkb : k < b.length := by rw [HL.out.2]; exact hlt
        obtain ⟨g, o, rfl, h1⟩ := HA.out (fun e => by rw [e] at hka; simp at hka)
        obtain ⟨g', o', rfl, h2⟩ := HB.out (fun e => by rw [e] at hkb; simp at hkb)
        obtain ⟨a1, a2⟩ := h1 k hka
        obtain ⟨b1, b2⟩ := h2 k hkb
        obtain ⟨⟨x, y⟩, hxy⟩ : ∃ q, a[k] = q := ⟨_, rfl⟩
        obtain ⟨⟨x', y'⟩, hxy'⟩ : ∃ q, b[k] = q := ⟨_, rfl⟩
        rw [hxy] at a1 a2
        rw [hxy'] at b1 b2
        simp only at a1 a2 b1 b2
        have hi1 : (k : Int) < (n : Int) := by omega
        have HX : Hid (a[k]? = some (x, y) ∧ b[k]? = some (x', y')) := ⟨by rw [List.getElem?_eq_getElem hka, hxy], by rw [List.getElem?_eq_getElem hkb, hxy']⟩
        have e1 : wr.cell? ⟨g, o + k * 2, none⟩ = some (.int .i64 x) := (HW.out.cell (World.block_lt_of_cell? w _ a1)).trans a1
        have e2 : wr.cell? ⟨g, o + k * 2 + 1, none⟩ = some (.int .i64 y) := (HW.out.cell (World.block_lt_of_cell? w _ a2)).trans a2
        have e3 : wr.cell? ⟨g', o' + k * 2, none⟩ = some (.int .i64 x') := (HW.out.cell (World.block_lt_of_cell? w _ b1)).trans b1
        have e4 : wr.cell? ⟨g', o' + k * 2 + 1, none⟩ = some (.int .i64 y') := (HW.out.cell (World.block_lt_of_cell? w _ b2)).trans b2
        clear h1 h2 hxy hxy' hka hkb a1 a2 b1 b2
        by_cases hx : x = x'
        · subst hx
          by_cases hy : y = y'
          · subst hy
            have HT2 : Hid (a.take (k + 1) = b.take (k + 1)) := by
              show _ = _
              rw [List.take_add_one, List.take_add_one, HT.out, HX.out.1, HX.out.2]
            go_wp2_with fail
            go_quiet (fail)
            rename_i nq
            go_wp2_with fail
            go_roundw
            case rel => exact ⟨k + 1, by omega, by first | rfl | go_num, below_step HW.out (below_drewN _ _), HT2⟩
            case measure => simp [intOf]; omega
          · have hy2 : (y == y') = false := by simpa using hy
            have HY := hidK hy
            clear hy
            have HZ2 : Hid (z = false) := by
              show _ = _
              rw [← HZ.out]
              simp only [decide_eq_false_iff_not]
              intro e
              have h1 := HX.out.1
              rw [e, HX.out.2] at h1
              simp only [Option.some.injEq, Prod.mk.injEq] at h1
              exact HY.out h1.2.symm
            go_wp2_with fail
            go_quiet (fail)
            rename_i nq
            go_wp2_with fail
            go_ret
            exact ⟨by rw [HZ2.out]; rfl, below_step HW.out (below_drewN _ _)⟩
        · have hx2 : (x == x') = false := by simpa using hx
          have HY := hidK hx
          clear hx
          have HZ2 : Hid (z = false) := by
            show _ = _
            rw [← HZ.out]
            simp only [decide_eq_false_iff_not]
            intro e
            have h1 := HX.out.1
            rw [e, HX.out.2] at h1
            simp only [Option.some.injEq, Prod.mk.injEq] at h1
            exact HY.out h1.1.symm
          go_wp2_with fail
          go_quiet (fail)
          rename_i nq
          go_wp2_with fail
          go_ret
          exact ⟨by rw [HZ2.out]; rfl, below_step HW.out (below_drewN _ _)⟩
      · obtain rfl : k = n := by omega
        have HZ2 : Hid (z = true) := by
          show _ = _
          have h1 := HT.out
          rw [List.take_of_length_le (by rw [HL.out.1]; exact Nat.le_refl _), List.take_of_length_le (by rw [HL.out.2]; exact Nat.le_refl _)] at h1
          rw [← HZ.out, h1]
          simp
        go_wp2_with fail
        go_ret
        exact ⟨by rw [HZ2.out]; rfl, HW.out⟩
  · have HZ2 : Hid (z = false) := by
      show _ = _
      rw [← HZ.out]
      simp only [decide_eq_false_iff_not]
      intro e
      subst e
      exact hnm (hn.symm.trans hm)
    have i1 : ((n : Int) == (m : Int)) = false := by simp; omega
    have i2 : ¬ (n : Int) = (m : Int) := by omega
    clear hn hm hl hl2 hnm
    go_enter Tryd.func9, Tryd.ntmps9
    go_wp2_with fail
    go_ret
    exact ⟨by rw [HZ2.out]; rfl, Below.refl _ _⟩
end Go.Proofs.YtnehkokppobncaaDoor

namespace Go.Proofs.YtnehkokppobncaaDoor
open Go.RowKit
set_option linter.unusedVariables false
set_option maxRecDepth 100000

theorem nm_len2 {w : World} (hT : Tabs w) : 4 < w.heap.size := World.block_lt_of_cell? w _ (hT.u8.2 0 (by decide)).1
theorem new_dc {w : World} (hT : Tabs w) : Dc (w.alloc (.cells #[.slice none 0 0] 41)).heap.size w.heap.size (w.alloc (.cells #[.slice none 0 0] 41)) (w.alloc (.cells #[.slice none 0 0] 41)) (.slice none 0 0) [] :=
  Dc.fresh w.heap.size (hT.below ((Below.refl _ _).alloc (Nat.le_refl _) _)) (heap_alloc_new w _) (nm_len2 hT)
/-- A decoder that is the call's own, from w on. -/
theorem Fd.under {B d : Nat} {w0 w w1 w' : World} {lv : Value} {l : List UInt8} {ks : List (Int × Int)} {C : Nat} (h : Fd B d w0 w1 w' lv l ks) (hb : Below C w w1) (hw : w0 = w1) (hC : C ≤ B) (hd : C ≤ d) : Below C w w' := by
  subst hw
  obtain ⟨v, hd2⟩ := h.dc
  have ha := hd2.ap
  exact hb.trans ⟨ha.os, ha.tape, ha.output, ha.size, fun k hk => ha.block k (by omega) (by omega)⟩
set_option maxHeartbeats 4000000 in
theorem sure_any {w : World} (hT : Tabs w) : Calls Tryd.prog 11 #[] w fun r w' => r = .returned (.bool true) ∧ Below w.heap.size w w' := by
  have HN := hidK (new_any w)
  obtain ⟨W, hW⟩ : ∃ W, w.alloc (.cells #[.slice none 0 0] 41) = W := ⟨_, rfl⟩
  obtain ⟨d, hd⟩ : ∃ d, w.heap.size = d := ⟨_, rfl⟩
  have hdc := new_dc hT
  rw [hW, hd] at hdc
  have hbW : Below w.heap.size w W := by rw [← hW]; exact (Below.refl _ _).alloc (Nat.le_refl _) _
  have HNm := hidK (name_any 98 4 (hT.below hbW))
  have hnm : str (nameF 98 4) = ⟨#[67, 45, 98]⟩ := by decide
  rw [hnm] at HNm
  rw [hW, hd] at HN
  have HDc := hidK hdc
  have HT := hidK (hT.below hbW)
  have HBW := hidK hbW
  have HSz : Hid (W.heap.size = d + 1) := by show _ = _; rw [← hW, ← hd]; simp
  have HWd : Hid (w.heap.size = d) := hd
  clear hT hdc hbW hnm hW
  go_enter Tryd.func11, Tryd.ntmps11
  go_wp2_with fail
  refine HN.out.mono ?_
  rintro e w1 ⟨rfl, rfl⟩
  go_wp2_with fail
  refine HNm.out.mono ?_
  rintro e w1 ⟨rfl, hb1⟩
  have hd1 := (HDc.out.more hb1).rebase
  have HT1 := HT.out.below hb1
  have HFe := hidK (feed_any hd1 HT1 (by simp) [97, 27, 91, 65, 27] (by simp))
  have hfe : feedF [] [97, 27, 91, 65, 27] = ([27], [(97, 0), (16777217, 0)]) := by decide
  rw [hfe] at HFe
  have HB1 := hidK (below_step HBW.out hb1)
  have HS1 := hidK hb1.size
  clear hd1 HT1 hfe hb1
  go_wp2_with fail
  refine HFe.out.mono ?_
  rintro e w2 ⟨la, rfl, hf2⟩
  obtain ⟨v2, hd2⟩ := hf2.dc
  have HFl := hidK (flush_any hd2.rebase (by simp))
  have hfl : flushF [27] = [(27, 0)] := by decide
  rw [hfl] at HFl
  have HF2 := hidK hf2
  have HD2 := hidK hd2
  obtain ⟨aa, ca, rfl⟩ := hf2.keys.slice
  clear hf2 hd2 hfl
  go_wp2_with fail
  refine HFl.out.mono ?_
  rintro e w3 ⟨lb, rfl, hf3⟩
  have hsa : SeeK w3 (.slice aa 2 ca) [(97, 0), (16777217, 0)] := (HF2.out.keys.ft hf3.ft HD2.out.dtype).see
  have hsb : SeeK w3 lb [(27, 0)] := hf3.keys.see
  have hb3 : Below w.heap.size w w3 := hf3.under (HF2.out.under HB1.out rfl (by have h1 := HSz.out; have h2 := HWd.out; omega) (by have h2 := HWd.out; omega)) rfl (by have h1 := HSz.out; have h2 := HWd.out; omega) (by have h2 := HWd.out; omega)
  have HB3 := hidK hb3
  obtain ⟨ab, cb, rfl⟩ := hf3.keys.slice
  obtain ⟨V, hV⟩ : ∃ V, w3.alloc (.cells #[.int .i64 97, .int .i64 0, .int .i64 16777217, .int .i64 0] 36) = V := ⟨_, rfl⟩
  obtain ⟨Q, hQ⟩ : ∃ Q, w3.heap.size = Q := ⟨_, rfl⟩
  have hbV : Below w3.heap.size w3 V := by rw [← hV]; exact (Below.refl _ _).alloc (Nat.le_refl _) _
  have hlit : SeeK V (.slice (some ⟨Q, 0, none⟩) 2 2) [(97, 0), (16777217, 0)] := SeeK.lit (w := V) (g := Q) (T := 36) [(97, 0), (16777217, 0)] (by rw [← hV, ← hQ]; exact heap_alloc_new w3 _) rfl 2
  have HS1 := hidK (same_any (hsa.below hbV) hlit (by simp) (by simp))
  have hd1 : decide ([((97 : Int), (0 : Int)), (16777217, 0)] = [((97 : Int), (0 : Int)), (16777217, 0)]) = true := by decide
  rw [hd1] at HS1
  have HSB := hidK (hsb.below hbV)
  have HBV := hidK (below_step hb3 hbV)
  clear hf3 hsa hsb hb3 hlit hbV hd1
  go_wp2_with fail
  refine HS1.out.mono ?_
  rintro e w5 ⟨rfl, hb5⟩
  obtain ⟨V2, hV2⟩ : ∃ V2, w5.alloc (.cells #[.int .i64 27, .int .i64 0] 36) = V2 := ⟨_, rfl⟩
  obtain ⟨Q2, hQ2⟩ : ∃ Q2, w5.heap.size = Q2 := ⟨_, rfl⟩
  have hbV2 : Below w5.heap.size w5 V2 := by rw [← hV2]; exact (Below.refl _ _).alloc (Nat.le_refl _) _
  have hlit2 : SeeK V2 (.slice (some ⟨Q2, 0, none⟩) 1 1) [(27, 0)] := SeeK.lit (w := V2) (g := Q2) (T := 36) [(27, 0)] (by rw [← hV2, ← hQ2]; exact heap_alloc_new w5 _) rfl 1
  have HS2 := hidK (same_any ((HSB.out.below hb5).below hbV2) hlit2 (by simp) (by simp))
  have hd2 : decide ([((27 : Int), (0 : Int))] = [((27 : Int), (0 : Int))]) = true := by decide
  rw [hd2] at HS2
  have HB5 := hidK (below_step (below_step HBV.out hb5) hbV2)
  clear hb5 hlit2 hbV2 hd2
  go_wp2_with fail
  refine HS2.out.mono ?_
  rintro e w6 ⟨rfl, hb6⟩
  have HB6 := hidK (below_step HB5.out hb6)
  clear hb6
  go_wp2_with fail
  go_ret
  exact ⟨rfl, by first | exact HB6.out | (rw [← HWd.out]; exact HB6.out)⟩
end Go.Proofs.YtnehkokppobncaaDoor

namespace Go.Proofs.YtnehkokppobncaaDoor
open Go.RowKit
set_option linter.unusedVariables false
set_option maxRecDepth 100000

/-- A key, or none. -/
def keyOk (k : Int × Int) : Prop := k.1 = 0 ∨ validB k.1 k.2 = true
theorem lone_ok : ∀ b : Fin 128, validB (loneF b.val).1 (loneF b.val).2 = true ∧ validB (loneF b.val).1 ((loneF b.val).2 + 2) = true := by decide
theorem take0_ok (b : UInt8) : keyOk (take0 b).2 := by
  unfold take0
  split
  · exact .inl rfl
  · split
    · rename_i h
      exact .inr (lone_ok ⟨b.toNat, h⟩).1
    · split <;> exact .inl rfl
theorem chr_ok {c m : Int} (h : chrB c = true) (hm : m = 0 ∨ m = 2) : validB c m = true := by
  have h1 : 33 ≤ c ∧ c ≤ 126 ∨ 160 ≤ c ∧ c ≤ 1114111 ∧ (c < 55296 ∨ 57343 < c) := by simpa [chrB] using h
  unfold validB
  rw [if_neg (by omega), if_neg (by simp [oneB]; omega), if_neg (by omega), if_neg (by simp [spcB]; omega), h]
  rcases hm with e | e <;> subst e <;> rfl
theorem chF_ok (h : List UInt8) (b : UInt8) : keyOk (chF h b).2 := by
  unfold chF
  simp only []
  split
  · split
    · exact take0_ok b
    · simp only []
      split
      · exact .inl rfl
      · rename_i q
        exact .inr (chr_ok (by simpa using fun e => q (.inr e)) (behind_mods _))
  · exact .inl rfl
theorem find_lt {p : Sp → Bool} : ∀ {l : List Sp} {i k : Nat}, findT p l i = some k → k < i + l.length
  | [], _, _, h => by cases h
  | a :: r, i, k, h => by
    unfold findT at h
    split at h
    · cases h; simp
    · have := find_lt h
      simp only [List.length_cons]; omega
theorem spc_ok {k : Nat} (hk : k < 22) {m : Int} (h0 : 0 ≤ m) (h7 : m ≤ 7) : validB (16777217 + (k : Int)) m = true := by
  unfold validB
  rw [if_neg (by omega), if_neg (by simp [oneB]; omega), if_neg (by omega), if_pos (by simp [spcB]; omega)]
  simp [h0, h7]
theorem inShift_ok (l : List UInt8) : keyOk (inShiftF l) := by
  unfold inShiftF
  split
  · rename_i i hi
    exact .inr (spc_ok (by have := find_lt hi; rw [spT_len] at this; omega) (Int.le_refl 0) (show (0 : Int) ≤ 7 by decide))
  · exact .inl rfl
theorem after_ok {nu la : List UInt8} {md : Bool} {m : Int} (h0 : 0 ≤ m) (h7 : m ≤ 7) : keyOk (afterF nu la md m) := by
  unfold afterF
  split
  · rename_i i hi
    exact .inr (spc_ok (by have := find_lt hi; rw [spT_len] at this; omega) h0 h7)
  · exact .inl rfl
theorem inSeq_ok (nu la : List UInt8) : keyOk (inSeqF nu la) := by
  by_cases hn : nu = [] ∧ la = [90]
  · obtain ⟨rfl, rfl⟩ := hn
    exact .inr rfl
  · cases h1 : (cutF nu).2.2 with
    | true =>
      by_cases h2 : modsF (cutF nu).2.1 = 0
      · rw [seq_bad hn h1 h2]; exact .inl rfl
      · rw [seq_mod hn h1 h2]
        have := mods_range (cutF nu).2.1
        exact after_ok this.1 this.2
    | false => rw [seq_plain hn h1]; exact after_ok (by decide) (by decide)
theorem take_ok (h : List UInt8) (b : UInt8) : keyOk (takeF h b).2 := by
  by_cases h0 : h = []
  · subst h0; exact take0_ok b
  · by_cases h1 : h.take 2 = [27, 91]
    · rw [takeF_seq h1]
      unfold seqT
      split
      · exact take0_ok b
      · split
        · split <;> exact .inl rfl
        · exact inSeq_ok _ _
    · by_cases h2 : h.take 2 = [27, 79]
      · rw [takeF_shift h2]; exact inShift_ok _
      · by_cases h3 : h = [27]
        · subst h3
          have e : takeF [27] b = if b = 91 ∨ b = 79 then ([27, b], (0, 0)) else if b.toNat < 128 then ([], mods2 (loneF b.toNat)) else chF [27] b := rfl
          rw [e]
          split
          · exact .inl rfl
          · split
            · rename_i q
              exact .inr (lone_ok ⟨b.toNat, q⟩).2
            · exact chF_ok _ _
        · rw [takeF_chr h0 h1 h2 h3]; exact chF_ok _ _
theorem feed_ok : ∀ (t h : List UInt8), ∀ k ∈ (feedF h t).2, validB k.1 k.2 = true
  | [], h, k, hk => by cases hk
  | b :: t, h, k, hk => by
    rw [feed_cons] at hk
    simp only at hk
    split at hk
    · exact feed_ok t _ k hk
    · rename_i q
      rcases List.mem_cons.1 hk with e | e
      · rw [e]
        rcases take_ok h b with e2 | e2
        · exact absurd e2 q
        · exact e2
      · exact feed_ok t _ k e
/-- What is held is an end of what was held and came. -/
theorem take0_end (b : UInt8) : (take0 b).1 <:+ [b] := by
  unfold take0
  split
  · rename_i h; subst h; exact List.suffix_refl _
  · split
    · exact List.nil_suffix
    · split
      · exact List.nil_suffix
      · exact List.suffix_refl _
theorem chF_end (h : List UInt8) (b : UInt8) : (chF h b).1 <:+ h ++ [b] := by
  unfold chF
  simp only []
  split
  · split
    · exact (take0_end b).trans (List.suffix_append _ _)
    · exact List.nil_suffix
  · exact List.suffix_refl _
theorem take_end (h : List UInt8) (b : UInt8) : (takeF h b).1 <:+ h ++ [b] := by
  by_cases h0 : h = []
  · subst h0; exact take0_end b
  · by_cases h1 : h.take 2 = [27, 91]
    · rw [takeF_seq h1]
      unfold seqT
      split
      · exact (take0_end b).trans (List.suffix_append _ _)
      · split
        · split
          · exact List.nil_suffix
          · exact List.suffix_refl _
        · exact List.nil_suffix
    · by_cases h2 : h.take 2 = [27, 79]
      · rw [takeF_shift h2]; exact List.nil_suffix
      · by_cases h3 : h = [27]
        · subst h3
          have e : takeF [27] b = if b = 91 ∨ b = 79 then ([27, b], (0, 0)) else if b.toNat < 128 then ([], mods2 (loneF b.toNat)) else chF [27] b := rfl
          rw [e]
          split
          · exact List.suffix_refl _
          · split
            · exact List.nil_suffix
            · exact chF_end _ _
        · rw [takeF_chr h0 h1 h2 h3]; exact chF_end _ _
theorem feed_end : ∀ (t h : List UInt8), (feedF h t).1 <:+ h ++ t
  | [], h => by simp [feedF]
  | b :: t, h => by
    rw [feed_cons]
    refine (feed_end t (takeF h b).1).trans ?_
    obtain ⟨p, hp⟩ := take_end h b
    refine ⟨p, ?_⟩
    rw [← List.append_assoc, hp]
    simp
end Go.Proofs.YtnehkokppobncaaDoor
