/-
  Keys: a key's name.
-/
import Derived.Test.YtghepjjfdaecgaaDoorKNam
import Derived.Test.YtghepjjfdaecgaaDoorKBld
import Derived.Laws.BitsLemmas
namespace Go.Proofs.YtghepjjfdaecgaaDoor
open Go.RowKit
set_option linter.unusedVariables false
set_option maxRecDepth 100000

theorem BuilderIn.below {w w' : World} {B b o : Nat} {T : TypeId} {cs : Array Value} {v : Value} {l : List UInt8} (h : BuilderIn w B b o T cs v l) (hb : Below w.heap.size w w') : BuilderIn w' B b o T cs v l :=
  ⟨(hb.block b (lt_block h.blk)).trans h.blk, h.adr, h.buf, h.own.keep fun g hg => by
    rcases h.own.2 with ⟨e, _⟩ | ⟨g', cap, cur, e, _, hk, _⟩
    · rw [e] at hg; cases hg
    · rw [e] at hg; cases hg
      exact hb.block _ (lt_block hk), h.ty, h.lies⟩
theorem BuilderIn.young {w : World} {B b o : Nat} {T : TypeId} {cs : Array Value} {v : Value} {l : List UInt8} (h : BuilderIn w B b o T cs v l) {g : Nat} (hg : v.ownBlock = some g) : B ≤ g := by
  rcases h.own.2 with ⟨e, _⟩ | ⟨g', cap, cur, e, hb, _⟩
  · rw [e] at hg; cases hg
  · rw [e] at hg; cases hg
    exact hb
theorem md_at : ∀ k : Fin 3, ∃ a b, mdT[k.val]? = some (a, b) ∧ ∀ W : World, (Instr.index 70 (.agg mdCs.toArray) (.int .i64 (k.val : Int))).run Tryd.prog W = .ok (.agg #[.int .i64 a, .string (str b)]) W := by
  intro k
  match k with
  | ⟨0, _⟩ => exact ⟨_, _, rfl, fun W => by kernel_rfl⟩
  | ⟨1, _⟩ => exact ⟨_, _, rfl, fun W => by kernel_rfl⟩
  | ⟨2, _⟩ => exact ⟨_, _, rfl, fun W => by kernel_rfl⟩
  | ⟨k + 3, h⟩ => exact absurd h (by omega)
theorem bit_has {m : Int} (h0 : 0 ≤ m) (h7 : m ≤ 7) {k : Nat} {a : Int} {b : List UInt8} (hk : mdT[k]? = some (a, b)) : bits .and .i64 m a = (if hasM m a then a else 0) ∧ (a == 0) = false ∧ b.length = 2 := by
  have hm : m = 0 ∨ m = 1 ∨ m = 2 ∨ m = 3 ∨ m = 4 ∨ m = 5 ∨ m = 6 ∨ m = 7 := by omega
  have hk3 : k < 3 := (List.getElem?_eq_some_iff.1 hk).1
  rcases (by omega : k = 0 ∨ k = 1 ∨ k = 2) with e | e | e <;> subst e <;> (cases hk; refine ⟨?_, rfl, rfl⟩) <;> rcases hm with e | e | e | e | e | e | e | e <;> subst e <;> decide
def preM (m : Int) (i : Nat) : List UInt8 := (mdT.take i).flatMap fun p => if hasM m p.1 then p.2 else []
theorem preM_zero (m : Int) : preM m 0 = [] := rfl
theorem preM_succ {m : Int} {k : Nat} {a : Int} {b : List UInt8} (hk : mdT[k]? = some (a, b)) : preM m (k + 1) = preM m k ++ if hasM m a then b else [] := by
  unfold preM
  obtain ⟨hi, he⟩ := List.getElem?_eq_some_iff.1 hk
  rw [List.take_succ_eq_append_getElem hi, he, List.flatMap_append]
  simp
theorem preM_all (m : Int) : preM m 3 = modF m := by
  unfold preM modF mdT
  simp only [List.take_succ_cons, List.take_zero, List.flatMap_cons, List.flatMap_nil, List.append_nil, List.append_assoc]
theorem preM_len (m : Int) (i : Nat) : (preM m i).length ≤ 6 := by
  unfold preM
  rcases (by omega : i = 0 ∨ i = 1 ∨ i = 2 ∨ 3 ≤ i) with e | e | e | e
  · subst e; simp
  · subst e; simp [mdT]; split <;> simp
  · subst e; simp [mdT]; split <;> split <;> simp
  · rw [List.take_of_length_le (by exact e)]; simp [mdT]; split <;> split <;> split <;> simp
/-- A name that is gathered: the key's block, the Builder's. -/
structure Nm (w wr : World) (K B : Nat) (cs : Array Value) (v : Value) (l : List UInt8) (c m : Int) : Prop where
  below : Below w.heap.size w wr
  key : wr.heap[K]? = some (.cells #[.int .i64 c, .int .i64 m] 30 (0, 0))
  bld : BuilderIn wr B B 0 68 cs v l
  kb : w.heap.size ≤ K ∧ K < B ∧ B ≤ wr.heap.size
theorem Nm.more {w wr w' : World} {K B : Nat} {cs : Array Value} {v : Value} {l : List UInt8} {c m : Int} (h : Nm w wr K B cs v l c m) (hb : Below wr.heap.size wr w') : Nm w w' K B cs v l c m :=
  ⟨h.below.trans (hb.mono h.below.size), (hb.block K (lt_block h.key)).trans h.key, h.bld.below hb, ⟨h.kb.1, h.kb.2.1, Nat.le_trans h.kb.2.2 hb.size⟩⟩
theorem Nm.put {w wr w' : World} {K B : Nat} {cs cs' : Array Value} {v v' : Value} {l l' : List UInt8} {c m : Int} (h : Nm w wr K B cs v l c m) (hb : BuilderIn w' B B 0 68 cs' v' l') (hbut : But (B :: v.ownBlock.toList) wr w') : Nm w w' K B cs' v' l' c m := by
  have hk := h.kb
  have hS : ∀ q ∈ B :: v.ownBlock.toList, B ≤ q := by
    intro q hq
    rcases List.mem_cons.1 hq with e | e
    · omega
    · exact h.bld.young (by simpa using e)
  refine ⟨hbut.under h.below h.below.size (fun q hq => by have := hS q hq; omega), (hbut.block K (lt_block h.key) (fun hq => by have := hS K hq; omega)).trans h.key, hb, ⟨hk.1, hk.2.1, Nat.le_trans hk.2.2 hbut.size⟩⟩
theorem bare_len (c : Int) : (bareF c).length ≤ 9 := by
  unfold bareF
  split
  · have hall : ∀ s ∈ spT, s.name.length ≤ 9 := by decide
    rw [List.getD_eq_getElem?_getD]
    cases h : spT[(c - 16777217).toNat]? with
    | none => simp
    | some s => exact hall s (List.mem_of_getElem? h)
  · split
    · rename_i p hp
      have hall : ∀ p ∈ nmT, p.2.length ≤ 9 := by decide
      exact hall p (List.mem_of_find?_eq_some hp)
    · unfold Lib.encodeRune Lib.encodeRuneZ
      split
      · simp
      · split
        · simp
        · split
          · simp
          · split <;> simp
set_option maxHeartbeats 4000000 in
theorem name_mods (c m : Int) (hv : validB c m = true) (h0 : 0 ≤ c) (h1 : c ≤ 16777239) (hm1 : 1 ≤ m) (hm7 : m ≤ 7) {w : World} (hT : Tabs w) : Calls Tryd.prog 17 #[.agg #[.int .i64 c, .int .i64 m]] w fun r w' => r = .returned (.string (str (modF m ++ bareF c))) ∧ Below w.heap.size w w' := by
  have HV : Hid (∀ W, Calls Tryd.prog 13 #[.agg #[.int .i64 c, .int .i64 m]] W fun r w' => r = .returned (.bool true) ∧ Below W.heap.size W w') := fun W => by rw [← hv]; exact valid_any c m W
  obtain ⟨N, hN⟩ : ∃ N, str (bareF c) = N := ⟨_, rfl⟩
  have HNs : Hid (N.size ≤ 9 ∧ N.data.toList = bareF c) := by rw [← hN]; exact ⟨bare_len c, rfl⟩
  have HBn : Hid (∀ W, Below w.heap.size w W → Calls Tryd.prog 35 #[.int .i64 c] W fun r w' => r = .returned (.string N) ∧ Below W.heap.size W w') := fun W hW => by rw [← hN]; exact bareName_any c h0 h1 (hT.below hW)
  obtain ⟨cs, hcs⟩ : ∃ cs, mdCs = cs := ⟨_, rfl⟩
  have HC : Hid (∀ W, Below w.heap.size w W → W.rangeAt 1 0 cs) := fun W hW => by rw [← hcs]; exact (hT.below hW).md
  have HHi : Hid ((Tryd.prog.info? 70).map (·.size) = some cs.length) := by rw [← hcs]; exact md_info
  have HAt : Hid (∀ k : Nat, k < 3 → ∃ a b, mdT[k]? = some (a, b) ∧ ∀ W : World, (Instr.index 70 (.agg cs.toArray) (.int .i64 (k : Int))).run Tryd.prog W = .ok (.agg #[.int .i64 a, .string (str b)]) W) := fun k hk => by rw [← hcs]; exact md_at ⟨k, hk⟩
  obtain ⟨R, hR⟩ : ∃ R, str (modF m ++ bareF c) = R := ⟨_, rfl⟩
  have HR := hidK hR
  rw [hR]
  have e0 : (m == 0) = false := by simp; omega
  have HMm : Hid (0 ≤ m ∧ m ≤ 7) := ⟨by omega, hm7⟩
  obtain ⟨W, hW⟩ : ∃ W, w.alloc (.cells #[.int .i64 c, .int .i64 m] 30) = W := ⟨_, rfl⟩
  have HW := hidK hW
  obtain ⟨K, hK⟩ : ∃ K, w.heap.size = K := ⟨_, rfl⟩
  have HK := hidK hK
  have HBW : Hid (Below w.heap.size w W) := by rw [← hW]; exact (Below.refl _ _).alloc (Nat.le_refl _) _
  have hkw : W.heap[K]? = some (.cells #[.int .i64 c, .int .i64 m] 30 (0, 0)) := by rw [← hW, ← hK]; exact heap_alloc_new w _
  have HKW := hidK hkw
  have k0 := cell_at hkw 0
  have k1 := cell_at hkw 1
  simp only [Array.getElem?_eq_getElem, List.size_toArray, List.length_cons, List.length_nil, Nat.zero_add, Nat.reduceAdd, Nat.reduceLT, Nat.zero_lt_succ, List.getElem_toArray, List.getElem_cons_zero, List.getElem_cons_succ] at k0 k1
  clear hcs hR hT hv h0 h1 hm1 hm7 hN hW hK hkw
  go_enter Tryd.func17, Tryd.ntmps17
  go_wp2_with fail
  rw [HW.out, HK.out]
  refine (HV.out _).mono ?_
  rintro e w1 ⟨rfl, hb1⟩
  have HB1 : Hid (Below w.heap.size w w1) := below_step HBW.out hb1
  have hk1 : w1.heap[K]? = some (.cells #[.int .i64 c, .int .i64 m] 30 (0, 0)) := (hb1.block K (lt_block HKW.out)).trans HKW.out
  have HK1 := hidK hk1
  have a0 : w1.cell? ⟨K, 0, none⟩ = some (.int .i64 c) := cell_at hk1 0
  clear k0 k1 hb1 hk1
  go_wp2_with fail
  refine (HBn.out _ HB1.out).mono ?_
  rintro e w2 ⟨rfl, hb2⟩
  have HB2 : Hid (Below w.heap.size w w2) := below_step HB1.out hb2
  have hk2 : w2.heap[K]? = some (.cells #[.int .i64 c, .int .i64 m] 30 (0, 0)) := (hb2.block K (lt_block HK1.out)).trans HK1.out
  have HK2 := hidK hk2
  have a1 : w2.cell? ⟨K, 1, none⟩ = some (.int .i64 m) := cell_at hk2 1
  obtain ⟨V, hV⟩ : ∃ V, w2.alloc (.cells #[.pointer none, .slice none 0 0] 68) = V := ⟨_, rfl⟩
  have HVV := hidK hV
  obtain ⟨B, hB⟩ : ∃ B, w2.heap.size = B := ⟨_, rfl⟩
  have HB := hidK hB
  have HBV : Hid (Below w.heap.size w V) := by rw [← hV]; exact below_step HB2.out ((Below.refl _ _).alloc (Nat.le_refl _) _)
  have H0 : Hid (Nm w V K B #[.pointer none, .slice none 0 0] (.slice none 0 0) (preM m 0) c m) := by
    refine ⟨HBV.out, ?_, ⟨by rw [← hV, ← hB]; exact heap_alloc_new w2 _, .inl rfl, rfl, ⟨rfl, .inl ⟨rfl, rfl⟩⟩, by decide, by kernel_rfl⟩, ?_⟩
    · rw [← hV]; exact alloc_at hk2 _
    · have h1 := HK.out
      have h2 := lt_block hk2
      have h3 : V.heap.size = B + 1 := by rw [← hV, ← hB]; simp
      omega
  clear a0 hb2 hk2 hV hB
  go_wp2_with (refine wpList_load_mid rfl 70 (.global 1) rfl 1 0 rfl cs _ (by rw [HVV.out]; exact HC.out V HBV.out) Tryd.underlying70 rfl HHi.out ?_)
  rw [HVV.out, HB.out]
  go_loopw [18] (fun v wr => ∃ i : Nat, i ≤ 3 ∧ v = .int .i64 i ∧ Hid (∃ cs v, Nm w wr K B cs v (preM m i) c m)) (fun v _ => 3 - (intOf v).toNat)
  case atStart => exact ⟨0, Nat.zero_le _, rfl, _, _, H0.out⟩
  case round =>
    obtain ⟨i, hi, rfl, HM⟩ := hrel
    obtain ⟨ds, v, hM⟩ := HM.out
    have HM2 := hidK hM
    clear HM hM
    by_cases hlt : i < 3
    · obtain ⟨a, b, t1, t2⟩ := HAt.out i hlt
      obtain ⟨b1, b2, b3⟩ := bit_has HMm.out.1 HMm.out.2 t1
      obtain ⟨S, hS⟩ : ∃ S, str b = S := ⟨_, rfl⟩
      have HSs : Hid (S.size = 2 ∧ S.data.toList = b) := by rw [← hS]; exact ⟨b3, rfl⟩
      rw [hS] at t2
      obtain ⟨Y, hY⟩ : ∃ Y, wr.alloc (.cells #[.int .i64 a, .string S] 69) = Y := ⟨_, rfl⟩
      have HY := hidK hY
      obtain ⟨Q, hQ⟩ : ∃ Q, wr.heap.size = Q := ⟨_, rfl⟩
      have HQ := hidK hQ
      have hBY : Below wr.heap.size wr Y := by rw [← hY]; exact (Below.refl _ _).alloc (Nat.le_refl _) _
      have HM3 : Hid (Nm w Y K B ds v (preM m i) c m) := HM2.out.more hBY
      have hqb : Y.heap[Q]? = some (.cells #[.int .i64 a, .string S] 69 (0, 0)) := by rw [← hY, ← hQ]; exact heap_alloc_new wr _
      have q0 : Y.cell? ⟨Q, 0, none⟩ = some (.int .i64 a) := cell_at hqb 0
      have q1 : Y.cell? ⟨Q, 1, none⟩ = some (.string S) := cell_at hqb 1
      have q2 : Y.cell? ⟨K, 1, none⟩ = some (.int .i64 m) := cell_at HM3.out.key 1
      have HP := hidK (preM_succ (m := m) t1)
      have HLt : Hid ((preM m i).length ≤ 6) := preM_len m i
      clear hS hBY hqb t1 b3
      cases hh : hasM m a with
      | true =>
        rw [hh, if_pos rfl] at b1
        have HWs : Hid (Calls Tryd.prog 36 #[.pointer (some ⟨B, 0, none⟩), .string S] Y fun e w' => (∃ r, e = .returned r) ∧ ∃ v', BuilderIn w' B B 0 68 ((ds.set! 0 (.pointer (some ⟨B, 0, none⟩))).set! (0 + 1) v') v' (preM m i ++ S.data.toList) ∧ But (B :: v.ownBlock.toList) Y w') := writeString_in S HM3.out.bld HM3.out.kb.2.2 (by have := HSs.out.1; have := HLt.out; omega)
        have HP2 : Hid (preM m i ++ S.data.toList = preM m (i + 1)) := by show _ = _; rw [HP.out, hh, if_pos rfl, HSs.out.2]
        clear hh HP
        go_wp2_with fail
        refine HWs.out.mono ?_
        rintro e w3 ⟨⟨r, rfl⟩, v', hb2, hbut⟩
        have H3 : Hid (∃ cs v, Nm w w3 K B cs v (preM m (i + 1)) c m) := ⟨_, v', by rw [← HP2.out]; exact HM3.out.put hb2 hbut⟩
        clear hb2 hbut q0 q1 q2
        go_wp2_with fail
        go_roundw
        case rel => exact ⟨i + 1, by omega, by first | rfl | go_num, H3⟩
        case measure => simp [intOf]; omega
      | false =>
        rw [hh, if_neg (by decide)] at b1
        have HP2 : Hid (preM m i = preM m (i + 1)) := by show _ = _; rw [HP.out, hh, if_neg (by decide), List.append_nil]
        have H3 : Hid (∃ cs v, Nm w Y K B cs v (preM m (i + 1)) c m) := ⟨_, v, by rw [← HP2.out]; exact HM3.out⟩
        clear hh HP
        go_wp2_with fail
        go_roundw
        case rel => exact ⟨i + 1, by omega, by first | rfl | go_num, H3⟩
        case measure => simp [intOf]; omega
    · have hi3 : i = 3 := by omega
      subst hi3
      have HLt : Hid ((preM m 3).length ≤ 6) := preM_len m 3
      have HWs : Hid (Calls Tryd.prog 36 #[.pointer (some ⟨B, 0, none⟩), .string N] wr fun e w' => (∃ r, e = .returned r) ∧ ∃ v', BuilderIn w' B B 0 68 ((ds.set! 0 (.pointer (some ⟨B, 0, none⟩))).set! (0 + 1) v') v' (preM m 3 ++ N.data.toList) ∧ But (B :: v.ownBlock.toList) wr w') := writeString_in N HM2.out.bld HM2.out.kb.2.2 (by have := HNs.out.1; have := HLt.out; omega)
      have HE : Hid (str (preM m 3 ++ N.data.toList) = R) := by show _ = _; rw [← HR.out, HNs.out.2, preM_all]
      go_wp2_with fail
      refine HWs.out.mono ?_
      rintro e w3 ⟨⟨r, rfl⟩, v', hb2, hbut⟩
      have hN3 := HM2.out.put hb2 hbut
      have HN3 := hidK hN3
      have HSt : Hid (Calls Tryd.prog 37 #[.pointer (some ⟨B, 0, none⟩)] w3 fun e w' => e = .returned (.string R) ∧ Below w.heap.size w w') := by
        have hS := string_in hN3.bld (fun h => absurd h (by
          have hz : 1 ≤ m := by
            have h1 := HMm.out.1
            have h2 : ¬ m = 0 := by simpa using e0
            omega
          rw [preM_all]
          unfold modF
          rcases (by have := HMm.out.2; omega : m = 1 ∨ m = 2 ∨ m = 3 ∨ m = 4 ∨ m = 5 ∨ m = 6 ∨ m = 7) with e | e | e | e | e | e | e <;> subst e <;> simp [hasM]))
        rw [HE.out] at hS
        refine hS.mono ?_
        rintro e w4 ⟨rfl, _, hb4⟩
        refine ⟨rfl, hb4.under hN3.below hN3.below.size fun q hq => ?_⟩
        have h1 := hN3.bld.young (by simpa using hq)
        have h2 := hN3.kb
        omega
      clear hb2 hbut hN3
      go_wp2_with fail
      refine HSt.out.mono ?_
      rintro e w4 ⟨rfl, hb4⟩
      have HB4 := hidK hb4
      clear hb4
      go_wp2_with fail
      go_ret
      exact ⟨rfl, HB4.out⟩
set_option maxHeartbeats 1000000 in
theorem name_bare (c : Int) (hv : validB c 0 = true) (h0 : 0 ≤ c) (h1 : c ≤ 16777239) {w : World} (hT : Tabs w) : Calls Tryd.prog 17 #[.agg #[.int .i64 c, .int .i64 0]] w fun r w' => r = .returned (.string (str (bareF c))) ∧ Below w.heap.size w w' := by
  have HV : Hid (∀ W, Calls Tryd.prog 13 #[.agg #[.int .i64 c, .int .i64 0]] W fun r w' => r = .returned (.bool true) ∧ Below W.heap.size W w') := fun W => by rw [← hv]; exact valid_any c 0 W
  obtain ⟨N, hN⟩ : ∃ N, str (bareF c) = N := ⟨_, rfl⟩
  have HBn : Hid (∀ W, Below w.heap.size w W → Calls Tryd.prog 35 #[.int .i64 c] W fun r w' => r = .returned (.string N) ∧ Below W.heap.size W w') := fun W hW => by rw [← hN]; exact bareName_any c h0 h1 (hT.below hW)
  rw [hN]
  obtain ⟨W, hW⟩ : ∃ W, w.alloc (.cells #[.int .i64 c, .int .i64 0] 30) = W := ⟨_, rfl⟩
  obtain ⟨K, hK⟩ : ∃ K, w.heap.size = K := ⟨_, rfl⟩
  have HBW : Hid (Below w.heap.size w W) := by rw [← hW]; exact (Below.refl _ _).alloc (Nat.le_refl _) _
  have hkw : W.heap[K]? = some (.cells #[.int .i64 c, .int .i64 0] 30 (0, 0)) := by rw [← hW, ← hK]; exact heap_alloc_new w _
  have HKW := hidK hkw
  have k0 : W.cell? ⟨K, 0, none⟩ = some (.int .i64 c) := cell_at hkw 0
  have k1 : W.cell? ⟨K, 1, none⟩ = some (.int .i64 0) := cell_at hkw 1
  have HK := hidK hK
  clear hT hv h0 h1 hN hkw
  go_enter Tryd.func17, Tryd.ntmps17
  go_wp2_with fail
  refine (HV.out _).mono ?_
  rintro e w1 ⟨rfl, hb1⟩
  have HB1 : Hid (Below w.heap.size w w1) := below_step HBW.out hb1
  have hk1 : w1.heap[K]? = some (.cells #[.int .i64 c, .int .i64 0] 30 (0, 0)) := (hb1.block K (lt_block HKW.out)).trans HKW.out
  have HK1 := hidK hk1
  have a0 : w1.cell? ⟨K, 0, none⟩ = some (.int .i64 c) := cell_at hk1 0
  clear k0 k1 hb1 hk1
  go_wp2_with fail
  refine (HBn.out _ HB1.out).mono ?_
  rintro e w2 ⟨rfl, hb2⟩
  have HB2 : Hid (Below w.heap.size w w2) := below_step HB1.out hb2
  have a1 : w2.cell? ⟨K, 1, none⟩ = some (.int .i64 0) := cell_at ((hb2.block K (lt_block HK1.out)).trans HK1.out) 1
  clear a0 hb2
  go_wp2_with fail
  go_ret
  exact ⟨rfl, by first | exact HB2.out | (rw [← HK.out]; exact HB2.out)⟩
set_option maxHeartbeats 1000000 in
theorem name_no (c m : Int) (hv : validB c m = false) (w : World) : Calls Tryd.prog 17 #[.agg #[.int .i64 c, .int .i64 m]] w fun r w' => r = .returned (.string (str [])) ∧ Below w.heap.size w w' := by
  have HV : Hid (∀ W, Calls Tryd.prog 13 #[.agg #[.int .i64 c, .int .i64 m]] W fun r w' => r = .returned (.bool false) ∧ Below W.heap.size W w') := fun W => by rw [← hv]; exact valid_any c m W
  have HFin : Hid (∀ W, Below (w.alloc (.cells #[.int .i64 c, .int .i64 m] 30)).heap.size (w.alloc (.cells #[.int .i64 c, .int .i64 m] 30)) W → Below w.heap.size w W) := fun W h => below_step ((Below.refl _ _).alloc (Nat.le_refl _) _) h
  clear hv
  go_enter Tryd.func17, Tryd.ntmps17
  go_wp2_with fail
  refine (HV.out _).mono ?_
  rintro e w1 ⟨rfl, hb1⟩
  have HB1 := hidK (HFin.out _ hb1)
  clear hb1
  go_wp2_with fail
  go_ret
  exact ⟨rfl, HB1.out⟩
theorem valid_code {c m : Int} (h : validB c m = true) : 0 ≤ c ∧ c ≤ 16777239 ∧ 0 ≤ m ∧ m ≤ 7 := by
  unfold validB at h
  by_cases h1 : c = 32
  · rw [if_pos h1] at h
    simp [plainM, ctrlM] at h
    omega
  · rw [if_neg h1] at h
    by_cases h2 : oneB c = true
    · rw [if_pos h2] at h
      simp [plainM, oneB] at h h2
      omega
    · rw [if_neg h2] at h
      by_cases h3 : c = 16777239
      · rw [if_pos h3] at h
        simp at h
        omega
      · rw [if_neg h3] at h
        by_cases h4 : spcB c = true
        · rw [if_pos h4] at h
          simp [spcB] at h h4
          omega
        · rw [if_neg h4] at h
          simp [plainM, ctrlM, chrB, ctlB] at h
          omega
theorem name_any (c m : Int) {w : World} (hT : Tabs w) : Calls Tryd.prog 17 #[.agg #[.int .i64 c, .int .i64 m]] w fun r w' => r = .returned (.string (str (nameF c m))) ∧ Below w.heap.size w w' := by
  unfold nameF
  cases hv : validB c m with
  | false => rw [if_neg (by decide)]; exact name_no c m hv w
  | true =>
    rw [if_pos rfl]
    obtain ⟨h0, h1, h2, h3⟩ := valid_code hv
    by_cases hm : m = 0
    · subst hm
      exact name_bare c hv h0 h1 hT
    · exact name_mods c m hv h0 h1 (by omega) h3 hT
end Go.Proofs.YtghepjjfdaecgaaDoor
