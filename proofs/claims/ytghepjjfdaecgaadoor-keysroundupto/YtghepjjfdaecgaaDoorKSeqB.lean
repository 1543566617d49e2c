/-
  Keys: the key of a control sequence.
-/
import Derived.Test.YtghepjjfdaecgaaDoorKSeq
namespace Go.Proofs.YtghepjjfdaecgaaDoor
open Go.RowKit
set_option linter.unusedVariables false
set_option maxRecDepth 100000

theorem cut_len (l : List UInt8) : (cutF l).1.length ≤ l.length ∧ (cutF l).2.1.length ≤ l.length := by
  induction l with
  | nil => exact ⟨Nat.le_refl _, Nat.le_refl _⟩
  | cons c r ih =>
    unfold cutF
    split
    · exact ⟨by simp, by simp⟩
    · simp only [List.length_cons]
      omega
/-- The key behind the modifiers. -/
def afterF (nu la : List UInt8) (md : Bool) (m : Int) : Int × Int :=
  match findT (fun s => toldB s nu la md) spT 0 with
  | some i => (16777217 + (i : Int), m)
  | none => (0, 0)
theorem mods_range (l : List UInt8) : 0 ≤ modsF l ∧ modsF l ≤ 7 := by
  unfold modsF
  split
  · split <;> omega
  · omega
theorem seq_z : inSeqF [] [90] = (16777239, 0) := rfl
theorem seq_bad {nu la : List UInt8} (h : ¬ (nu = [] ∧ la = [90])) (h1 : (cutF nu).2.2 = true) (h2 : modsF (cutF nu).2.1 = 0) : inSeqF nu la = (0, 0) := by
  unfold inSeqF
  rw [if_neg h]
  simp only [h1, if_true]
  rw [if_pos ⟨trivial, h2⟩]
theorem seq_mod {nu la : List UInt8} (h : ¬ (nu = [] ∧ la = [90])) (h1 : (cutF nu).2.2 = true) (h2 : modsF (cutF nu).2.1 ≠ 0) : inSeqF nu la = afterF (cutF nu).1 la true (modsF (cutF nu).2.1) := by
  unfold inSeqF afterF
  rw [if_neg h]
  simp only [h1, if_true]
  rw [if_neg (fun q => h2 q.2)]
  cases findT (fun s => toldB s (cutF nu).1 la true) spT 0 <;> rfl
theorem seq_plain {nu la : List UInt8} (h : ¬ (nu = [] ∧ la = [90])) (h1 : (cutF nu).2.2 = false) : inSeqF nu la = afterF (cutF nu).1 la false 0 := by
  unfold inSeqF afterF
  rw [if_neg h]
  simp only [h1, Bool.false_eq_true, if_false]
  rw [if_neg (by simp)]
  cases findT (fun s => toldB s (cutF nu).1 la false) spT 0 <;> rfl
set_option maxHeartbeats 4000000 in
theorem inSeq_mod (nu la : List UInt8) (hl : nu.length ≤ 1000) (hn : ¬ (nu = [] ∧ la = [90])) (h1 : (cutF nu).2.2 = true) (h2 : modsF (cutF nu).2.1 ≠ 0) {w : World} (hT : Tabs w) : Calls Tryd.prog 67 #[.string (str nu), .string (str la)] w fun r w' => r = .returned (.agg #[.int .i64 (afterF (cutF nu).1 la true (modsF (cutF nu).2.1)).1, .int .i64 (afterF (cutF nu).1 la true (modsF (cutF nu).2.1)).2]) ∧ Below w.heap.size w w' := by
  obtain ⟨W, Z, hW, hZ, HZ, HW, k0, k1, f0, f1⟩ := key_new w
  obtain ⟨N, hN⟩ : ∃ N, str nu = N := ⟨_, rfl⟩
  obtain ⟨L, hL⟩ : ∃ L, str la = L := ⟨_, rfl⟩
  have HTL := hidK hL
  have HZc : Hid (¬ (nu = [] ∧ la = [90])) := hn
  have hcnd : (N.toList = [] ∧ N.toList.isEmpty = true ∧ (L.toList == [90]) = false) ∨ (¬ N.toList = [] ∧ N.toList.isEmpty = false) := by
    rw [← hN, ← hL, str_toList, str_toList]
    by_cases h1 : nu = []
    · left
      exact ⟨h1, by rw [h1]; rfl, by simpa using fun h2 => hn ⟨h1, h2⟩⟩
    · right
      exact ⟨h1, by simpa using h1⟩
  have HCt := hidK (cut_any nu hl)
  have hml := cut_len nu
  obtain ⟨cs, hcs⟩ : ∃ cs, spCs = cs := ⟨_, rfl⟩
  have HC : Hid (∀ X, Below w.heap.size w X → X.rangeAt 0 0 cs) := fun X hX => by rw [← hcs]; exact (hT.below hX).sp
  have HHi : Hid ((Tryd.prog.info? 59).map (·.size) = some cs.length) := by rw [← hcs]; exact sp_info
  have HAt : Hid (∀ k : Nat, k < 22 → ∃ s, spT[k]? = some s ∧ ∀ W : World, (Instr.index 59 (.agg cs.toArray) (.int .i64 (k : Int))).run Tryd.prog W = .ok (.agg #[.string (str s.name), .string (str s.head), .string (str s.letter), .string (str s.number)]) W) := fun k hk => by rw [← hcs]; exact sp_at ⟨k, hk⟩
  obtain ⟨A, hA⟩ : ∃ A, str (cutF nu).1 = A := ⟨_, rfl⟩
  obtain ⟨D, hD⟩ : ∃ D, str (cutF nu).2.1 = D := ⟨_, rfl⟩
  have HCu : Hid (str (cutF nu).1 = A ∧ str (cutF nu).2.1 = D) := ⟨hA, hD⟩
  rw [hA, hD, h1, hN] at HCt
  obtain ⟨m, hm⟩ : ∃ m, modsF (cutF nu).2.1 = m := ⟨_, rfl⟩
  have HMo : Hid (∀ X, Calls Tryd.prog 74 #[.string D] X fun r w' => r = .returned (.int .i64 m) ∧ X = w') := fun X => by rw [← hD, ← hm]; exact modsOf_any _ (by omega) X
  have m0 : (m == 0) = false := by rw [hm] at h2; simpa using h2
  obtain ⟨x, y, hx, hy⟩ : ∃ x y, (afterF (cutF nu).1 la true (modsF (cutF nu).2.1)).1 = x ∧ (afterF (cutF nu).1 la true (modsF (cutF nu).2.1)).2 = y := ⟨_, _, rfl, rfl⟩
  have HXY : Hid (afterF (cutF nu).1 la true m = (x, y)) := by rw [← hx, ← hy, ← hm]; exact rfl
  rw [hx, hy, hL, hN]
  clear hx hy hT hcs hA hD hm h1 h2 hN hL hn hl hml HZc
  have HGo : Hid (∀ {R : World → Prop}, True) := trivial
  clear HGo
  rcases hcnd with ⟨n1, n2, n3⟩ | ⟨n1, n2⟩ <;>
  · go_enter Tryd.func67, Tryd.ntmps67
    go_wp2_with fail
    refine (HCt.out _).mono ?_
    rintro e w1 ⟨rfl, hb1⟩
    have HKw := hidK (HZ.out.more hb1)
    have HC1 := hidK (HC.out _ HKw.out.below)
    clear hb1 k0 k1 f0 f1
    go_wp2_with first | (go_at_call 74; refine (HMo.out _).mono ?_; rintro e w3 ⟨rfl, rfl⟩) | (refine wpList_load_mid rfl 59 (.global 0) rfl 0 0 rfl cs _ HC1.out Tryd.underlying59 rfl HHi.out ?_)
    go_loopw [31] (fun v wr => ∃ i : Nat, i ≤ 22 ∧ v = .int .i64 i ∧ Hid (∀ (j : Nat) s, j < i → spT[j]? = some s → toldB s (cutF nu).1 la true = false) ∧ Hid (Kb w wr Z 0 0)) (fun v _ => 22 - (intOf v).toNat)
    case atStart => exact ⟨0, Nat.zero_le _, rfl, fun j p hj => by omega, HKw⟩
    case round =>
      obtain ⟨i, hi, rfl, HNo, HB⟩ := hrel
      by_cases hlt : i < 22
      · obtain ⟨s, t1, t2⟩ := HAt.out i hlt
        have HT1 := hidK t1
        have hz : (i : Int) < 22 := by omega
        have HIs := hidK (isTold_any s (cutF nu).1 la true)
        obtain ⟨sn, hsn⟩ : ∃ z, str s.name = z := ⟨_, rfl⟩
        obtain ⟨sh, hsh⟩ : ∃ z, str s.head = z := ⟨_, rfl⟩
        obtain ⟨sl, hsl⟩ : ∃ z, str s.letter = z := ⟨_, rfl⟩
        obtain ⟨sm, hsm⟩ : ∃ z, str s.number = z := ⟨_, rfl⟩
        rw [hsn, hsh, hsl, hsm] at t2
        rw [hsn, hsh, hsl, hsm, HTL.out, HCu.out.1] at HIs
        obtain ⟨Y, hY⟩ : ∃ Y, wr.alloc (.cells #[.string sn, .string sh, .string sl, .string sm] 58) = Y := ⟨_, rfl⟩
        obtain ⟨Q, hQ⟩ : ∃ Q, wr.heap.size = Q := ⟨_, rfl⟩
        have hk := HB.out.more (W' := Y) (by rw [← hY]; exact (Below.refl _ _).alloc (Nat.le_refl _) _)
        have hqb : Y.heap[Q]? = some (.cells #[.string sn, .string sh, .string sl, .string sm] 58 (0, 0)) := by rw [← hY, ← hQ]; exact heap_alloc_new wr _
        have q0 : Y.cell? ⟨Q, 0, none⟩ = some (.string sn) := cell_at hqb 0
        have q1 : Y.cell? ⟨Q, 1, none⟩ = some (.string sh) := cell_at hqb 1
        have q2 : Y.cell? ⟨Q, 2, none⟩ = some (.string sl) := cell_at hqb 2
        have q3 : Y.cell? ⟨Q, 3, none⟩ = some (.string sm) := cell_at hqb 3
        have HK := hidK hk
        clear t1 hqb hk hsn hsh hsm hsl
        cases hto : toldB s (cutF nu).1 la true with
        | true =>
          rw [hto] at HIs
          have HF : Hid (16777217 + (i : Int) = x ∧ m = y) := by
            have h1 := HXY.out
            unfold afterF at h1
            rw [find_yes HT1.out hto HNo.out] at h1
            simp only [Nat.zero_add] at h1
            exact ⟨(Prod.mk.inj h1).1, (Prod.mk.inj h1).2⟩
          obtain ⟨e1, e2⟩ := HF.out
          subst e1 e2
          clear HF hto
          go_wp2_with fail
          refine (HIs.out _).mono ?_
          rintro e w2 ⟨rfl, hb2⟩
          have HK2 := hidK (HK.out.more hb2)
          have z0 := HK2.out.c0
          have z1 := HK2.out.c1
          have z2 := HK2.out.f 0
          have z3 := HK2.out.f 1
          clear hb2 q0 q1 q2 q3
          go_wp2_with fail
          refine key_end rfl HK2.out HW.out rfl rfl ?_
          intro X' hX' _
          exact ⟨rfl, by first | exact hX' | (rw [← hZ]; exact hX')⟩
        | false =>
          rw [hto] at HIs
          have HN2 : Hid (∀ (j : Nat) s, j < i + 1 → spT[j]? = some s → toldB s (cutF nu).1 la true = false) := fun j p hj hp => by
            by_cases hji : j < i
            · exact HNo.out j p hji hp
            · have : j = i := by omega
              subst this
              rw [HT1.out] at hp
              rw [← Option.some.inj hp]
              exact hto
          clear hto
          go_wp2_with fail
          refine (HIs.out _).mono ?_
          rintro e w2 ⟨rfl, hb2⟩
          have HK2 := hidK (HK.out.more hb2)
          clear hb2 q0 q1 q2 q3
          go_wp2_with fail
          first
            | (go_roundw
               case rel => exact ⟨i + 1, by omega, by first | rfl | go_num, HN2, HK2⟩
               case measure => simp [intOf]; omega)
            | exact ⟨⟨i + 1, by omega, by first | rfl | go_num, HN2, HK2⟩, by simp [intOf]; omega⟩
      · have hi22 : i = 22 := by omega
        subst hi22
        have HF : Hid (0 = x ∧ 0 = y) := by
          have h1 := HXY.out
          unfold afterF at h1
          rw [find_no fun j p hp => HNo.out j p (by have := (List.getElem?_eq_some_iff.1 hp).1; rw [spT_len] at this; exact this) hp] at h1
          exact ⟨(Prod.mk.inj h1).1, (Prod.mk.inj h1).2⟩
        obtain ⟨e1, e2⟩ := HF.out
        subst e1 e2
        have z0 := HB.out.c0
        have z1 := HB.out.c1
        have z2 := HB.out.f 0
        have z3 := HB.out.f 1
        clear HF
        go_wp2_with fail
        refine key_end rfl HB.out HW.out rfl rfl ?_
        intro X' hX' _
        exact ⟨rfl, by first | exact hX' | (rw [← hZ]; exact hX')⟩
set_option maxHeartbeats 4000000 in
theorem inSeq_plain (nu la : List UInt8) (hl : nu.length ≤ 1000) (hn : ¬ (nu = [] ∧ la = [90])) (h1 : (cutF nu).2.2 = false) {w : World} (hT : Tabs w) : Calls Tryd.prog 67 #[.string (str nu), .string (str la)] w fun r w' => r = .returned (.agg #[.int .i64 (afterF (cutF nu).1 la false 0).1, .int .i64 (afterF (cutF nu).1 la false 0).2]) ∧ Below w.heap.size w w' := by
  obtain ⟨W, Z, hW, hZ, HZ, HW, k0, k1, f0, f1⟩ := key_new w
  obtain ⟨N, hN⟩ : ∃ N, str nu = N := ⟨_, rfl⟩
  obtain ⟨L, hL⟩ : ∃ L, str la = L := ⟨_, rfl⟩
  have HTL := hidK hL
  have HZc : Hid (¬ (nu = [] ∧ la = [90])) := hn
  have hcnd : (N.toList = [] ∧ N.toList.isEmpty = true ∧ (L.toList == [90]) = false) ∨ (¬ N.toList = [] ∧ N.toList.isEmpty = false) := by
    rw [← hN, ← hL, str_toList, str_toList]
    by_cases h1 : nu = []
    · left
      exact ⟨h1, by rw [h1]; rfl, by simpa using fun h2 => hn ⟨h1, h2⟩⟩
    · right
      exact ⟨h1, by simpa using h1⟩
  have HCt := hidK (cut_any nu hl)
  have hml := cut_len nu
  obtain ⟨cs, hcs⟩ : ∃ cs, spCs = cs := ⟨_, rfl⟩
  have HC : Hid (∀ X, Below w.heap.size w X → X.rangeAt 0 0 cs) := fun X hX => by rw [← hcs]; exact (hT.below hX).sp
  have HHi : Hid ((Tryd.prog.info? 59).map (·.size) = some cs.length) := by rw [← hcs]; exact sp_info
  have HAt : Hid (∀ k : Nat, k < 22 → ∃ s, spT[k]? = some s ∧ ∀ W : World, (Instr.index 59 (.agg cs.toArray) (.int .i64 (k : Int))).run Tryd.prog W = .ok (.agg #[.string (str s.name), .string (str s.head), .string (str s.letter), .string (str s.number)]) W) := fun k hk => by rw [← hcs]; exact sp_at ⟨k, hk⟩
  obtain ⟨A, hA⟩ : ∃ A, str (cutF nu).1 = A := ⟨_, rfl⟩
  obtain ⟨D, hD⟩ : ∃ D, str (cutF nu).2.1 = D := ⟨_, rfl⟩
  have HCu : Hid (str (cutF nu).1 = A ∧ str (cutF nu).2.1 = D) := ⟨hA, hD⟩
  rw [hA, hD, h1, hN] at HCt
  obtain ⟨x, y, hx, hy⟩ : ∃ x y, (afterF (cutF nu).1 la false 0).1 = x ∧ (afterF (cutF nu).1 la false 0).2 = y := ⟨_, _, rfl, rfl⟩
  have HXY : Hid (afterF (cutF nu).1 la false 0 = (x, y)) := by rw [← hx, ← hy]; exact rfl
  rw [hx, hy, hL, hN]
  clear hx hy hT hcs hA hD h1 hN hL hn hl hml HZc
  rcases hcnd with ⟨n1, n2, n3⟩ | ⟨n1, n2⟩ <;>
  · go_enter Tryd.func67, Tryd.ntmps67
    go_wp2_with fail
    refine (HCt.out _).mono ?_
    rintro e w1 ⟨rfl, hb1⟩
    have HKw := hidK (HZ.out.more hb1)
    have HC1 := hidK (HC.out _ HKw.out.below)
    clear hb1 k0 k1 f0 f1
    go_wp2_with (refine wpList_load_mid rfl 59 (.global 0) rfl 0 0 rfl cs _ HC1.out Tryd.underlying59 rfl HHi.out ?_)
    go_loopw [31] (fun v wr => ∃ i : Nat, i ≤ 22 ∧ v = .int .i64 i ∧ Hid (∀ (j : Nat) s, j < i → spT[j]? = some s → toldB s (cutF nu).1 la false = false) ∧ Hid (Kb w wr Z 0 0)) (fun v _ => 22 - (intOf v).toNat)
    case atStart => exact ⟨0, Nat.zero_le _, rfl, fun j p hj => by omega, HKw⟩
    case round =>
      obtain ⟨i, hi, rfl, HNo, HB⟩ := hrel
      by_cases hlt : i < 22
      · obtain ⟨s, t1, t2⟩ := HAt.out i hlt
        have HT1 := hidK t1
        have hz : (i : Int) < 22 := by omega
        have HIs := hidK (isTold_any s (cutF nu).1 la false)
        obtain ⟨sn, hsn⟩ : ∃ z, str s.name = z := ⟨_, rfl⟩
        obtain ⟨sh, hsh⟩ : ∃ z, str s.head = z := ⟨_, rfl⟩
        obtain ⟨sl, hsl⟩ : ∃ z, str s.letter = z := ⟨_, rfl⟩
        obtain ⟨sm, hsm⟩ : ∃ z, str s.number = z := ⟨_, rfl⟩
        rw [hsn, hsh, hsl, hsm] at t2
        rw [hsn, hsh, hsl, hsm, HTL.out, HCu.out.1] at HIs
        obtain ⟨Y, hY⟩ : ∃ Y, wr.alloc (.cells #[.string sn, .string sh, .string sl, .string sm] 58) = Y := ⟨_, rfl⟩
        obtain ⟨Q, hQ⟩ : ∃ Q, wr.heap.size = Q := ⟨_, rfl⟩
        have hk := HB.out.more (W' := Y) (by rw [← hY]; exact (Below.refl _ _).alloc (Nat.le_refl _) _)
        have hqb : Y.heap[Q]? = some (.cells #[.string sn, .string sh, .string sl, .string sm] 58 (0, 0)) := by rw [← hY, ← hQ]; exact heap_alloc_new wr _
        have q0 : Y.cell? ⟨Q, 0, none⟩ = some (.string sn) := cell_at hqb 0
        have q1 : Y.cell? ⟨Q, 1, none⟩ = some (.string sh) := cell_at hqb 1
        have q2 : Y.cell? ⟨Q, 2, none⟩ = some (.string sl) := cell_at hqb 2
        have q3 : Y.cell? ⟨Q, 3, none⟩ = some (.string sm) := cell_at hqb 3
        have HK := hidK hk
        clear t1 hqb hk hsn hsh hsm hsl
        cases hto : toldB s (cutF nu).1 la false with
        | true =>
          rw [hto] at HIs
          have HF : Hid (16777217 + (i : Int) = x ∧ (0 : Int) = y) := by
            have h1 := HXY.out
            unfold afterF at h1
            rw [find_yes HT1.out hto HNo.out] at h1
            simp only [Nat.zero_add] at h1
            exact ⟨(Prod.mk.inj h1).1, (Prod.mk.inj h1).2⟩
          obtain ⟨e1, e2⟩ := HF.out
          subst e1 e2
          clear HF hto
          go_wp2_with fail
          refine (HIs.out _).mono ?_
          rintro e w2 ⟨rfl, hb2⟩
          have HK2 := hidK (HK.out.more hb2)
          have z0 := HK2.out.c0
          have z1 := HK2.out.c1
          have z2 := HK2.out.f 0
          have z3 := HK2.out.f 1
          clear hb2 q0 q1 q2 q3
          go_wp2_with fail
          refine key_end rfl HK2.out HW.out rfl rfl ?_
          intro X' hX' _
          exact ⟨rfl, by first | exact hX' | (rw [← hZ]; exact hX')⟩
        | false =>
          rw [hto] at HIs
          have HN2 : Hid (∀ (j : Nat) s, j < i + 1 → spT[j]? = some s → toldB s (cutF nu).1 la false = false) := fun j p hj hp => by
            by_cases hji : j < i
            · exact HNo.out j p hji hp
            · have : j = i := by omega
              subst this
              rw [HT1.out] at hp
              rw [← Option.some.inj hp]
              exact hto
          clear hto
          go_wp2_with fail
          refine (HIs.out _).mono ?_
          rintro e w2 ⟨rfl, hb2⟩
          have HK2 := hidK (HK.out.more hb2)
          clear hb2 q0 q1 q2 q3
          go_wp2_with fail
          first
            | (go_roundw
               case rel => exact ⟨i + 1, by omega, by first | rfl | go_num, HN2, HK2⟩
               case measure => simp [intOf]; omega)
            | exact ⟨⟨i + 1, by omega, by first | rfl | go_num, HN2, HK2⟩, by simp [intOf]; omega⟩
      · have hi22 : i = 22 := by omega
        subst hi22
        have HF : Hid (0 = x ∧ 0 = y) := by
          have h1 := HXY.out
          unfold afterF at h1
          rw [find_no fun j p hp => HNo.out j p (by have := (List.getElem?_eq_some_iff.1 hp).1; rw [spT_len] at this; exact this) hp] at h1
          exact ⟨(Prod.mk.inj h1).1, (Prod.mk.inj h1).2⟩
        obtain ⟨e1, e2⟩ := HF.out
        subst e1 e2
        have z0 := HB.out.c0
        have z1 := HB.out.c1
        have z2 := HB.out.f 0
        have z3 := HB.out.f 1
        clear HF
        go_wp2_with fail
        refine key_end rfl HB.out HW.out rfl rfl ?_
        intro X' hX' _
        exact ⟨rfl, by first | exact hX' | (rw [← hZ]; exact hX')⟩
set_option maxHeartbeats 4000000 in
theorem inSeq_bad (nu la : List UInt8) (hl : nu.length ≤ 1000) (hn : ¬ (nu = [] ∧ la = [90])) (h1 : (cutF nu).2.2 = true) (h2 : modsF (cutF nu).2.1 = 0) {w : World} (hT : Tabs w) : Calls Tryd.prog 67 #[.string (str nu), .string (str la)] w fun r w' => r = .returned (.agg #[.int .i64 ((0, 0) : Int × Int).1, .int .i64 ((0, 0) : Int × Int).2]) ∧ Below w.heap.size w w' := by
  obtain ⟨W, Z, hW, hZ, HZ, HW, k0, k1, f0, f1⟩ := key_new w
  obtain ⟨N, hN⟩ : ∃ N, str nu = N := ⟨_, rfl⟩
  obtain ⟨L, hL⟩ : ∃ L, str la = L := ⟨_, rfl⟩
  have HTL := hidK hL
  have HZc : Hid (¬ (nu = [] ∧ la = [90])) := hn
  have hcnd : (N.toList = [] ∧ N.toList.isEmpty = true ∧ (L.toList == [90]) = false) ∨ (¬ N.toList = [] ∧ N.toList.isEmpty = false) := by
    rw [← hN, ← hL, str_toList, str_toList]
    by_cases h1 : nu = []
    · left
      exact ⟨h1, by rw [h1]; rfl, by simpa using fun h2 => hn ⟨h1, h2⟩⟩
    · right
      exact ⟨h1, by simpa using h1⟩
  have HCt := hidK (cut_any nu hl)
  have hml := cut_len nu
  obtain ⟨A, hA⟩ : ∃ A, str (cutF nu).1 = A := ⟨_, rfl⟩
  obtain ⟨D, hD⟩ : ∃ D, str (cutF nu).2.1 = D := ⟨_, rfl⟩
  have HMo : Hid (∀ X, Calls Tryd.prog 74 #[.string D] X fun r w' => r = .returned (.int .i64 0) ∧ X = w') := fun X => by rw [← hD, ← h2]; exact modsOf_any _ (by omega) X
  rw [hA, hD, h1, hN] at HCt
  rw [hL, hN]
  clear hT hA hD h1 h2 hN hL hn hl hml HZc
  rcases hcnd with ⟨n1, n2, n3⟩ | ⟨n1, n2⟩ <;>
  · go_enter Tryd.func67, Tryd.ntmps67
    go_wp2_with fail
    refine (HCt.out _).mono ?_
    rintro e w1 ⟨rfl, hb1⟩
    have HKw := hidK (HZ.out.more hb1)
    have z0 := HKw.out.c0
    have z1 := HKw.out.c1
    have z2 := HKw.out.f 0
    have z3 := HKw.out.f 1
    clear hb1 k0 k1 f0 f1
    go_wp2_with (go_at_call 74; refine (HMo.out _).mono ?_; rintro e w3 ⟨rfl, rfl⟩)
    refine key_end rfl HKw.out HW.out rfl rfl ?_
    intro X' hX' _
    exact ⟨rfl, by first | exact hX' | (rw [← hZ]; exact hX')⟩
set_option maxHeartbeats 1000000 in
theorem inSeq_z (w : World) : Calls Tryd.prog 67 #[.string ⟨#[]⟩, .string ⟨#[90]⟩] w fun r w' => r = .returned (.agg #[.int .i64 16777239, .int .i64 0]) ∧ Below w.heap.size w w' := by
  obtain ⟨W, Z, hW, hZ, HZ, HW, k0, k1, f0, f1⟩ := key_new w
  go_enter Tryd.func67, Tryd.ntmps67
  go_wp2_with fail
  refine key_end rfl HZ.out HW.out rfl rfl ?_
  intro X' hX' _
  exact ⟨rfl, by first | exact hX' | (rw [← hZ]; exact hX')⟩
theorem inSeq_any (nu la : List UInt8) (hl : nu.length ≤ 1000) {w : World} (hT : Tabs w) : Calls Tryd.prog 67 #[.string (str nu), .string (str la)] w fun r w' => r = .returned (.agg #[.int .i64 (inSeqF nu la).1, .int .i64 (inSeqF nu la).2]) ∧ Below w.heap.size w w' := by
  by_cases hn : nu = [] ∧ la = [90]
  · obtain ⟨rfl, rfl⟩ := hn
    exact inSeq_z w
  · cases h1 : (cutF nu).2.2 with
    | true =>
      by_cases h2 : modsF (cutF nu).2.1 = 0
      · rw [seq_bad hn h1 h2]
        exact inSeq_bad nu la hl hn h1 h2 hT
      · rw [seq_mod hn h1 h2]
        exact inSeq_mod nu la hl hn h1 h2 hT
    | false =>
      rw [seq_plain hn h1]
      exact inSeq_plain nu la hl hn h1 hT
end Go.Proofs.YtghepjjfdaecgaaDoor
