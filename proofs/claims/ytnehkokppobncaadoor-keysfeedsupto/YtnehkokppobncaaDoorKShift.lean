/-
  Keys: special keys by their letters, their numbers.
-/
import Derived.Test.YtnehkokppobncaaDoorGE
namespace Go.Proofs.YtnehkokppobncaaDoor
open Go.RowKit
set_option linter.unusedVariables false
set_option maxRecDepth 100000

theorem find_yes {p : Sp → Bool} : ∀ {l : List Sp} {i k : Nat} {s : Sp}, l[k]? = some s → p s = true → (∀ (j : Nat) s', j < k → l[j]? = some s' → p s' = false) → findT p l i = some (i + k)
  | [], _, _, _, h, _, _ => by simp at h
  | a :: r, i, 0, s, h, hp, _ => by
    obtain rfl : a = s := by simpa using h
    unfold findT
    rw [if_pos hp]
    rfl
  | a :: r, i, k + 1, s, h, hp, hno => by
    unfold findT
    rw [if_neg (by rw [hno 0 a (by omega) rfl]; decide), find_yes (k := k) (s := s) (by simpa using h) hp (fun j s' hj hs => hno (j + 1) s' (by omega) (by simpa using hs))]
    congr 1
    omega
theorem find_no {p : Sp → Bool} : ∀ {l : List Sp} {i : Nat}, (∀ (j : Nat) s', l[j]? = some s' → p s' = false) → findT p l i = none
  | [], _, _ => rfl
  | a :: r, i, hno => by
    unfold findT
    rw [if_neg (by rw [hno 0 a rfl]; decide), find_no (fun j s' hs => hno (j + 1) s' (by simpa using hs))]
theorem str_ne {a b : List UInt8} (h : a ≠ b) : ((str a).toList == b) = false := by rw [str_toList]; simpa using h
theorem str_eqb {a b : List UInt8} (h : a ≠ b) : ((str a).toList == (str b).toList) = false := by rw [str_toList, str_toList]; simpa using h
theorem str_inj {a b : List UInt8} (h : str a = str b) : a = b := by
  have h1 : (str a).toList = (str b).toList := by rw [h]
  rwa [str_toList, str_toList] at h1
set_option maxHeartbeats 2000000 in
theorem inShift_any (t : List UInt8) {w : World} (hT : Tabs w) : Calls Tryd.prog 25 #[.string (str t)] w fun r w' => r = .returned (.agg #[.int .i64 (inShiftF t).1, .int .i64 (inShiftF t).2]) ∧ Below w.heap.size w w' := by
  obtain ⟨W, Z, hW, hZ, HZ, HW, k0, k1, f0, f1⟩ := key_new w
  obtain ⟨cs, hcs⟩ : ∃ cs, spCs = cs := ⟨_, rfl⟩
  have HC : Hid (W.rangeAt 1 0 cs) := by rw [← hcs]; exact (hT.below HZ.out.below).sp
  have HHi : Hid ((Tryd.prog.info? 69).map (·.size) = some cs.length) := by rw [← hcs]; exact sp_info
  have HAt : Hid (∀ k : Nat, k < 22 → ∃ s, spT[k]? = some s ∧ ∀ W : World, (Instr.index 69 (.agg cs.toArray) (.int .i64 (k : Int))).run Tryd.prog W = .ok (.agg #[.string (str s.name), .string (str s.head), .string (str s.letter), .string (str s.number)]) W) := fun k hk => by rw [← hcs]; exact sp_at ⟨k, hk⟩
  obtain ⟨T, hT2⟩ : ∃ T, str t = T := ⟨_, rfl⟩
  obtain ⟨x, y, hx, hy⟩ : ∃ x y, (inShiftF t).1 = x ∧ (inShiftF t).2 = y := ⟨_, _, rfl, rfl⟩
  have HXY : Hid (inShiftF t = (x, y)) := by rw [← hx, ← hy]; exact rfl
  rw [hx, hy, hT2]
  have HTT := hidK hT2
  clear hx hy hT hcs hT2
  go_enter Tryd.func25, Tryd.ntmps25
  go_wp2_with (refine wpList_load_mid rfl 69 (.global 1) rfl 1 0 rfl cs _ HC.out Tryd.underlying69 rfl HHi.out ?_)
  go_loopw [6] (fun v wr => ∃ i : Nat, i ≤ 22 ∧ v = .int .i64 i ∧ Hid (∀ (j : Nat) s, j < i → spT[j]? = some s → decide (s.letter = t) = false) ∧ Hid (Kb w wr Z 0 0)) (fun v _ => 22 - (intOf v).toNat)
  case atStart => exact ⟨0, Nat.zero_le _, rfl, fun j p hj => by omega, HZ⟩
  case round =>
    obtain ⟨i, hi, rfl, HNo, HB⟩ := hrel
    by_cases hlt : i < 22
    · obtain ⟨s, t1, t2⟩ := HAt.out i hlt
      have HT1 := hidK t1
      have hz : (i : Int) < 22 := by omega
      obtain ⟨sn, hsn⟩ : ∃ z, str s.name = z := ⟨_, rfl⟩
      obtain ⟨sh, hsh⟩ : ∃ z, str s.head = z := ⟨_, rfl⟩
      obtain ⟨sl, hsl⟩ : ∃ z, str s.letter = z := ⟨_, rfl⟩
      obtain ⟨sm, hsm⟩ : ∃ z, str s.number = z := ⟨_, rfl⟩
      rw [hsn, hsh, hsl, hsm] at t2
      obtain ⟨Y, hY⟩ : ∃ Y, wr.alloc (.cells #[.string sn, .string sh, .string sl, .string sm] 68) = Y := ⟨_, rfl⟩
      obtain ⟨Q, hQ⟩ : ∃ Q, wr.heap.size = Q := ⟨_, rfl⟩
      have hk := HB.out.more (W' := Y) (by rw [← hY]; exact (Below.refl _ _).alloc (Nat.le_refl _) _)
      have hqb : Y.heap[Q]? = some (.cells #[.string sn, .string sh, .string sl, .string sm] 68 (0, 0)) := by rw [← hY, ← hQ]; exact heap_alloc_new wr _
      have q2 : Y.cell? ⟨Q, 2, none⟩ = some (.string sl) := cell_at hqb 2
      have z0 := hk.c0
      have z1 := hk.c1
      have z2 := hk.f 0
      have z3 := hk.f 1
      have HK := hidK hk
      clear t1 hqb hk hsn hsh hsm k0 k1 f0 f1
      by_cases hae : s.letter = t
      · have e1 : sl = T := by rw [← hsl, ← HTT.out, hae]
        subst e1
        have HF : Hid (16777217 + (i : Int) = x ∧ 0 = y) := by
          have h1 := HXY.out
          unfold inShiftF at h1
          rw [find_yes HT1.out (by simpa using hae) HNo.out] at h1
          simp only [Nat.zero_add] at h1
          exact ⟨(Prod.mk.inj h1).1, (Prod.mk.inj h1).2⟩
        clear hae hsl
        obtain ⟨e1, e2⟩ := HF.out
        subst e1 e2
        clear HF
        go_wp2_with fail
        refine key_end rfl HK.out HW.out rfl rfl ?_
        intro X' hX' _
        exact ⟨rfl, by first | exact hX' | (rw [← hZ]; exact hX')⟩
      · have hab : (sl.toList == T.toList) = false := by rw [← hsl, ← HTT.out]; exact str_eqb hae
        have HN2 : Hid (∀ (j : Nat) s, j < i + 1 → spT[j]? = some s → decide (s.letter = t) = false) := fun j p hj hp => by
          by_cases hji : j < i
          · exact HNo.out j p hji hp
          · have : j = i := by omega
            subst this
            rw [HT1.out] at hp
            rw [← Option.some.inj hp]
            simpa using hae
        clear hae hsl
        go_wp2_with fail
        first
          | (go_roundw
             case rel => exact ⟨i + 1, by omega, by first | rfl | go_num, HN2, HK⟩
             case measure => simp [intOf]; omega)
          | exact ⟨⟨i + 1, by omega, by first | rfl | go_num, HN2, HK⟩, by simp [intOf]; omega⟩
    · have hi22 : i = 22 := by omega
      subst hi22
      have HF : Hid (0 = x ∧ 0 = y) := by
        have h1 := HXY.out
        unfold inShiftF at h1
        rw [find_no fun j p hp => HNo.out j p (by have := (List.getElem?_eq_some_iff.1 hp).1; rw [spT_len] at this; exact this) hp] at h1
        exact ⟨(Prod.mk.inj h1).1, (Prod.mk.inj h1).2⟩
      obtain ⟨e1, e2⟩ := HF.out
      subst e1 e2
      have z0 := HB.out.c0
      have z1 := HB.out.c1
      have z2 := HB.out.f 0
      have z3 := HB.out.f 1
      clear HF k0 k1 f0 f1
      go_wp2_with fail
      refine key_end rfl HB.out HW.out rfl rfl ?_
      intro X' hX' _
      exact ⟨rfl, by first | exact hX' | (rw [← hZ]; exact hX')⟩
end Go.Proofs.YtnehkokppobncaaDoor
