/-
  Keys: letters and numbers of sequences, by the document.
-/
import Derived.Test.YtnehkokppobncaaDoorKRefU
namespace Go.Proofs.YtnehkokppobncaaDoor
open Go.RowKit
set_option linter.unusedVariables false
set_option maxRecDepth 100000

def lettT : List (Int × UInt8) := [(16777217, 65), (16777218, 66), (16777219, 67), (16777220, 68), (16777221, 72), (16777222, 70), (16777227, 80), (16777228, 81), (16777229, 82), (16777230, 83)]
def numbT : List (Int × Int) := [(16777223, 2), (16777224, 3), (16777225, 5), (16777226, 6), (16777231, 15), (16777232, 17), (16777233, 18), (16777234, 19), (16777235, 20), (16777236, 21), (16777237, 23), (16777238, 24)]
def lettF (c : Int) : List UInt8 := match lettT.find? (fun p => decide (p.1 = c)) with
  | some p => [p.2]
  | none => []
def numbF (c : Int) : Int := match numbT.find? (fun p => decide (p.1 = c)) with
  | some p => p.2
  | none => 0
theorem find_hit {α : Type} {l : List (Int × α)} {e : Int} {k : Nat} {t : α} (h : l[k]? = some (e, t)) (hno : ∀ (j : Nat) p, j < k → l[j]? = some p → p.1 ≠ e) : l.find? (fun p => decide (p.1 = e)) = some (e, t) := by
  have hk := (List.getElem?_eq_some_iff.1 h).1
  have h2 := (List.getElem?_eq_some_iff.1 h).2
  rw [List.find?_eq_some_iff_getElem]
  refine ⟨by simp, k, hk, h2, fun j hj => ?_⟩
  have := hno j _ hj (List.getElem?_eq_getElem (by omega))
  simpa using this
theorem find_miss {α : Type} {l : List (Int × α)} {e : Int} (hno : ∀ (j : Nat) p, l[j]? = some p → p.1 ≠ e) : l.find? (fun p => decide (p.1 = e)) = none := by
  rw [List.find?_eq_none]
  intro p hp
  obtain ⟨j, hj, e2⟩ := List.getElem_of_mem hp
  have := hno j p (by rw [List.getElem?_eq_getElem hj, e2])
  simpa using this
def lettS : ByteArray := ⟨#[65, 66, 67, 68, 72, 70, 80, 81, 82, 83]⟩
theorem lett_at : ∀ k : Fin 10, ∃ a b, lettT[k.val]? = some (a, b) ∧ (lettT.map fun p => Value.int .i64 p.1)[k.val]? = some (.int .i64 a) ∧ lettS.extract k.val (k.val + 1) = str [b] := by
  intro k
  match k with
  | ⟨0, _⟩ => exact ⟨_, _, rfl, rfl, rfl⟩
  | ⟨1, _⟩ => exact ⟨_, _, rfl, rfl, rfl⟩
  | ⟨2, _⟩ => exact ⟨_, _, rfl, rfl, rfl⟩
  | ⟨3, _⟩ => exact ⟨_, _, rfl, rfl, rfl⟩
  | ⟨4, _⟩ => exact ⟨_, _, rfl, rfl, rfl⟩
  | ⟨5, _⟩ => exact ⟨_, _, rfl, rfl, rfl⟩
  | ⟨6, _⟩ => exact ⟨_, _, rfl, rfl, rfl⟩
  | ⟨7, _⟩ => exact ⟨_, _, rfl, rfl, rfl⟩
  | ⟨8, _⟩ => exact ⟨_, _, rfl, rfl, rfl⟩
  | ⟨9, _⟩ => exact ⟨_, _, rfl, rfl, rfl⟩
  | ⟨k + 10, h⟩ => exact absurd h (by omega)
theorem numb_at : ∀ k : Fin 12, ∃ a b, numbT[k.val]? = some (a, b) ∧ (numbT.map fun p => Value.int .i64 p.1)[k.val]? = some (.int .i64 a) ∧ (numbT.map fun p => Value.int .i64 p.2)[k.val]? = some (.int .i64 b) := by
  intro k
  match k with
  | ⟨0, _⟩ => exact ⟨_, _, rfl, rfl, rfl⟩
  | ⟨1, _⟩ => exact ⟨_, _, rfl, rfl, rfl⟩
  | ⟨2, _⟩ => exact ⟨_, _, rfl, rfl, rfl⟩
  | ⟨3, _⟩ => exact ⟨_, _, rfl, rfl, rfl⟩
  | ⟨4, _⟩ => exact ⟨_, _, rfl, rfl, rfl⟩
  | ⟨5, _⟩ => exact ⟨_, _, rfl, rfl, rfl⟩
  | ⟨6, _⟩ => exact ⟨_, _, rfl, rfl, rfl⟩
  | ⟨7, _⟩ => exact ⟨_, _, rfl, rfl, rfl⟩
  | ⟨8, _⟩ => exact ⟨_, _, rfl, rfl, rfl⟩
  | ⟨9, _⟩ => exact ⟨_, _, rfl, rfl, rfl⟩
  | ⟨10, _⟩ => exact ⟨_, _, rfl, rfl, rfl⟩
  | ⟨11, _⟩ => exact ⟨_, _, rfl, rfl, rfl⟩
  | ⟨k + 12, h⟩ => exact absurd h (by omega)
theorem slice_two (A : ByteArray) (a : Nat) (h : a + 1 ≤ A.size) (W : World) : (Instr.slice 9 (.string A) (some (.int .i64 (a : Int))) (some (.int .i64 ((a : Int) + 1))) none).run Tryd.prog W = .ok (.string (A.extract a (a + 1))) W := by
  have h1 := run_slice_string (P := Tryd.prog) (w := W) 9 A .i64 .i64 (a : Int) ((a : Int) + 1) (by kernel_rfl) (by omega) (by omega) (by omega)
  rw [h1]
  rw [show ((a : Int) + 1).toNat = a + 1 by omega, show ((a : Int)).toNat = a by omega]
set_option maxHeartbeats 2000000 in
theorem rletter_any (c : Int) (w : World) : Calls Tryd.prog 30 #[.int .i64 c] w fun r w' => r = .returned (.string (str (lettF c))) ∧ Below w.heap.size w w' := by
  obtain ⟨cs, hcs⟩ : ∃ cs, (lettT.map fun p => Value.int .i64 p.1) = cs := ⟨_, rfl⟩
  obtain ⟨V, hV⟩ : ∃ V, w.alloc (.cells #[.int .i64 16777217, .int .i64 16777218, .int .i64 16777219, .int .i64 16777220, .int .i64 16777221, .int .i64 16777222, .int .i64 16777227, .int .i64 16777228, .int .i64 16777229, .int .i64 16777230] 3) = V := ⟨_, rfl⟩
  obtain ⟨Q, hQ⟩ : ∃ Q, w.heap.size = Q := ⟨_, rfl⟩
  have hbV : Below w.heap.size w V := by rw [← hV]; exact (Below.refl _ _).alloc (Nat.le_refl _) _
  have hqV : V.heap[Q]? = some (.cells cs.toArray 3 (0, 0)) := by rw [← hV, ← hQ, ← hcs]; exact heap_alloc_new w _
  have HQV := hidK hqV
  have HBV := hidK hbV
  have HAt : Hid (∀ k : Nat, k < 10 → ∃ a b, lettT[k]? = some (a, b) ∧ V.cell? ⟨Q, k, none⟩ = some (.int .i64 a) ∧ lettS.extract k (k + 1) = str [b]) := fun k hk => by
    obtain ⟨a, b, h1, h2, h3⟩ := lett_at ⟨k, hk⟩
    rw [hcs] at h2
    exact ⟨a, b, h1, by rw [cell_at hqV]; simpa using h2, h3⟩
  obtain ⟨R, hR⟩ : ∃ R, str (lettF c) = R := ⟨_, rfl⟩
  have HR := hidK hR
  rw [hR]
  have hLs : lettS.size = 10 := rfl
  have hLd : (⟨#[65, 66, 67, 68, 72, 70, 80, 81, 82, 83]⟩ : ByteArray) = lettS := rfl
  have HWd : Hid (w.heap.size = Q) := hQ
  clear hcs hR hqV hbV
  go_enter Tryd.func30, Tryd.ntmps30
  go_wp2_with fail
  go_loopw [4] (fun v wr => ∃ i : Nat, i ≤ 10 ∧ v = .int .i64 i ∧ Hid (∀ (j : Nat) p, j < i → lettT[j]? = some p → p.1 ≠ c) ∧ wr = V) (fun v _ => 10 - (intOf v).toNat)
  case atStart => exact ⟨0, Nat.zero_le _, rfl, fun j p hj => by omega, rfl⟩
  case round =>
    obtain ⟨i, hi, rfl, HNo, rfl⟩ := hrel
    by_cases hlt : i < 10
    · obtain ⟨a, b, t1, t2, t3⟩ := HAt.out i hlt
      have HT1 := hidK t1
      have hz : (i : Int) < 10 := by omega
      have hsl := slice_two lettS i (by rw [hLs]; omega)
      rw [t3] at hsl
      clear t1 t3
      by_cases hae : a = c
      · subst hae
        have HF : Hid (str [b] = R) := by
          show _ = _
          rw [← HR.out]
          unfold lettF
          rw [find_hit HT1.out HNo.out]
        rw [HF.out] at hsl
        go_wp2_with fail
        go_ret
        exact ⟨rfl, by first | exact HBV.out | (rw [← HWd.out]; exact HBV.out)⟩
      · have hab : (a == c) = false := by simpa using hae
        have HN2 : Hid (∀ (j : Nat) p, j < i + 1 → lettT[j]? = some p → p.1 ≠ c) := fun j p hj hp => by
          by_cases hji : j < i
          · exact HNo.out j p hji hp
          · have : j = i := by omega
            subst this
            rw [HT1.out] at hp
            rw [← Option.some.inj hp]
            exact hae
        clear hsl hae
        go_wp2_with fail
        first
          | (go_roundw
             case rel => exact ⟨i + 1, by omega, by first | rfl | go_num, HN2, by first | trivial | rfl⟩
             case measure => simp [intOf]; omega)
          | exact ⟨⟨i + 1, by omega, by first | rfl | go_num, HN2, by first | trivial | rfl⟩, by simp [intOf]; omega⟩
    · have hi10 : i = 10 := by omega
      subst hi10
      have HF : Hid (str [] = R) := by
        show _ = _
        rw [← HR.out]
        unfold lettF
        rw [find_miss fun j p hp => HNo.out j p (by have := (List.getElem?_eq_some_iff.1 hp).1; exact this) hp]
      go_wp2_with fail
      go_ret
      exact ⟨by rw [← HF.out]; rfl, by first | exact HBV.out | (rw [← HWd.out]; exact HBV.out)⟩
set_option maxHeartbeats 2000000 in
theorem rnumber_any (c : Int) (w : World) : Calls Tryd.prog 60 #[.int .i64 c] w fun r w' => r = .returned (.int .i64 (numbF c)) ∧ Below w.heap.size w w' := by
  obtain ⟨cs, hcs⟩ : ∃ cs, (numbT.map fun p => Value.int .i64 p.1) = cs := ⟨_, rfl⟩
  obtain ⟨ds, hds⟩ : ∃ ds, (numbT.map fun p => Value.int .i64 p.2) = ds := ⟨_, rfl⟩
  obtain ⟨U, hU⟩ : ∃ U, w.alloc (.cells #[.int .i64 16777223, .int .i64 16777224, .int .i64 16777225, .int .i64 16777226, .int .i64 16777231, .int .i64 16777232, .int .i64 16777233, .int .i64 16777234, .int .i64 16777235, .int .i64 16777236, .int .i64 16777237, .int .i64 16777238] 3) = U := ⟨_, rfl⟩
  obtain ⟨V, hV⟩ : ∃ V, U.alloc (.cells #[.int .i64 2, .int .i64 3, .int .i64 5, .int .i64 6, .int .i64 15, .int .i64 17, .int .i64 18, .int .i64 19, .int .i64 20, .int .i64 21, .int .i64 23, .int .i64 24] 3) = V := ⟨_, rfl⟩
  obtain ⟨Q, hQ⟩ : ∃ Q, w.heap.size = Q := ⟨_, rfl⟩
  obtain ⟨Q2, hQ2⟩ : ∃ Q2, U.heap.size = Q2 := ⟨_, rfl⟩
  have hbU : Below w.heap.size w U := by rw [← hU]; exact (Below.refl _ _).alloc (Nat.le_refl _) _
  have hbV1 : Below U.heap.size U V := by rw [← hV]; exact (Below.refl _ _).alloc (Nat.le_refl _) _
  have hqU : U.heap[Q]? = some (.cells cs.toArray 3 (0, 0)) := by rw [← hU, ← hQ, ← hcs]; exact heap_alloc_new w _
  have hqV : V.heap[Q]? = some (.cells cs.toArray 3 (0, 0)) := (hbV1.block Q (lt_block hqU)).trans hqU
  have hqW : V.heap[Q2]? = some (.cells ds.toArray 3 (0, 0)) := by rw [← hV, ← hQ2, ← hds]; exact heap_alloc_new U _
  have HBV := hidK (below_step hbU hbV1)
  have HAt : Hid (∀ k : Nat, k < 12 → ∃ a b, numbT[k]? = some (a, b) ∧ V.cell? ⟨Q, k, none⟩ = some (.int .i64 a) ∧ V.cell? ⟨Q2, k, none⟩ = some (.int .i64 b)) := fun k hk => by
    obtain ⟨a, b, h1, h2, h3⟩ := numb_at ⟨k, hk⟩
    rw [hcs] at h2
    rw [hds] at h3
    exact ⟨a, b, h1, by rw [cell_at hqV]; simpa using h2, by rw [cell_at hqW]; simpa using h3⟩
  obtain ⟨R, hR⟩ : ∃ R, numbF c = R := ⟨_, rfl⟩
  have HR := hidK hR
  rw [hR]
  have HWd : Hid (w.heap.size = Q) := hQ
  clear hcs hds hR hqV hqU hqW hbU hbV1
  go_enter Tryd.func60, Tryd.ntmps60
  go_wp2_with fail
  go_loopw [5] (fun v wr => ∃ i : Nat, i ≤ 12 ∧ v = .int .i64 i ∧ Hid (∀ (j : Nat) p, j < i → numbT[j]? = some p → p.1 ≠ c) ∧ wr = V) (fun v _ => 12 - (intOf v).toNat)
  case atStart => exact ⟨0, Nat.zero_le _, rfl, fun j p hj => by omega, rfl⟩
  case round =>
    obtain ⟨i, hi, rfl, HNo, rfl⟩ := hrel
    by_cases hlt : i < 12
    · obtain ⟨a, b, t1, t2, t3⟩ := HAt.out i hlt
      have HT1 := hidK t1
      have hz : (i : Int) < 12 := by omega
      clear t1
      by_cases hae : a = c
      · subst hae
        have HF : Hid (b = R) := by
          show _ = _
          rw [← HR.out]
          unfold numbF
          rw [find_hit HT1.out HNo.out]
        go_wp2_with fail
        go_ret
        exact ⟨by rw [← HF.out]; rfl, by first | exact HBV.out | (rw [← HWd.out]; exact HBV.out)⟩
      · have hab : (a == c) = false := by simpa using hae
        have HN2 : Hid (∀ (j : Nat) p, j < i + 1 → numbT[j]? = some p → p.1 ≠ c) := fun j p hj hp => by
          by_cases hji : j < i
          · exact HNo.out j p hji hp
          · have : j = i := by omega
            subst this
            rw [HT1.out] at hp
            rw [← Option.some.inj hp]
            exact hae
        clear hae
        go_wp2_with fail
        first
          | (go_roundw
             case rel => exact ⟨i + 1, by omega, by first | rfl | go_num, HN2, by first | trivial | rfl⟩
             case measure => simp [intOf]; omega)
          | exact ⟨⟨i + 1, by omega, by first | rfl | go_num, HN2, by first | trivial | rfl⟩, by simp [intOf]; omega⟩
    · have hi12 : i = 12 := by omega
      subst hi12
      have HF : Hid (0 = R) := by
        show _ = _
        rw [← HR.out]
        unfold numbF
        rw [find_miss fun j p hp => HNo.out j p (by have := (List.getElem?_eq_some_iff.1 hp).1; exact this) hp]
      go_wp2_with fail
      go_ret
      exact ⟨by rw [← HF.out]; rfl, by first | exact HBV.out | (rw [← HWd.out]; exact HBV.out)⟩
/-- A number in digits, below a hundred. -/
def digF (n : Int) : List UInt8 := if n < 10 then [(48 + n).toNat.toUInt8] else [(48 + n / 10).toNat.toUInt8, (48 + n % 10).toNat.toUInt8]
set_option maxHeartbeats 2000000 in
theorem rput_one (n : Int) (h0 : 0 ≤ n) (h1 : n < 10) (w : World) : Calls Tryd.prog 59 #[.int .i64 n] w fun r w' => r = .returned (.string (str [(48 + n).toNat.toUInt8])) ∧ Below w.heap.size w w' := by
  have HFin : Hid (∀ o, Below w.heap.size w (w.alloc o)) := fun o => (Below.refl _ _).alloc (Nat.le_refl _) o
  obtain ⟨y0, hy0⟩ : ∃ y, 48 + n = y := ⟨_, rfl⟩
  have r0 : 0 ≤ y0 ∧ y0 < 256 := by omega
  obtain ⟨b0, e0, f0⟩ := byte_ex y0 r0.1 r0.2
  have w0 := u8_in y0 r0
  have hcv := conv_made [b0] (by simp) w
  obtain ⟨R, hR⟩ : ∃ R, str [b0] = R := ⟨_, rfl⟩
  rw [hy0, ← f0, hR]
  rw [hR] at hcv
  have hcw : (convert 39 9 (.slice (some ⟨w.heap.size, 0, none⟩) 1 1)).run Tryd.prog (w.alloc (.cells #[.int .u8 y0] 5)) = .ok (.string R) (w.alloc (.cells #[.int .u8 y0] 5)) := by rw [e0]; exact hcv
  clear hcv hR e0 f0 r0
  go_enter Tryd.func59, Tryd.ntmps59
  go_wp2_with fail
  go_ret
  exact ⟨rfl, HFin.out _⟩
set_option maxHeartbeats 2000000 in
theorem rput_two (n : Int) (h0 : 10 ≤ n) (h1 : n < 100) (w : World) : Calls Tryd.prog 59 #[.int .i64 n] w fun r w' => r = .returned (.string (str [(48 + n / 10).toNat.toUInt8, (48 + n % 10).toNat.toUInt8])) ∧ Below w.heap.size w w' := by
  have A1 := hidK (rput_one (n / 10) (by omega) (by omega))
  have A2 := hidK (rput_one (n % 10) (by omega) (by omega))
  obtain ⟨q, hq⟩ : ∃ q, n / 10 = q := ⟨_, rfl⟩
  obtain ⟨r, hr⟩ : ∃ r, n % 10 = r := ⟨_, rfl⟩
  rw [hq] at A1
  rw [hr] at A2
  rw [hq, hr]
  obtain ⟨X, hX⟩ : ∃ X, str [(48 + q).toNat.toUInt8] = X := ⟨_, rfl⟩
  obtain ⟨Y, hY⟩ : ∃ Y, str [(48 + r).toNat.toUInt8] = Y := ⟨_, rfl⟩
  have HXY : Hid (str [(48 + q).toNat.toUInt8, (48 + r).toNat.toUInt8] = X ++ Y) := by show _ = _; rw [← hX, ← hY, str_catK]; rfl
  have zX : X.size = 1 := by rw [← hX]; rfl
  have zY : Y.size = 1 := by rw [← hY]; rfl
  rw [hX] at A1
  rw [hY] at A2
  rw [HXY.out]
  clear hX hY
  go_enter Tryd.func59, Tryd.ntmps59
  go_wp2_with fail
  refine (A1.out _).mono ?_
  rintro e w1 ⟨rfl, hb1⟩
  go_wp2_with fail
  refine (A2.out _).mono ?_
  rintro e w2 ⟨rfl, hb2⟩
  go_wp2_with fail
  go_ret
  exact ⟨rfl, below_step hb1 hb2⟩
theorem rput_any (n : Int) (h0 : 0 ≤ n) (h1 : n < 100) (w : World) : Calls Tryd.prog 59 #[.int .i64 n] w fun r w' => r = .returned (.string (str (digF n))) ∧ Below w.heap.size w w' := by
  unfold digF
  by_cases h : n < 10
  · rw [if_pos h]; exact rput_one n h0 h w
  · rw [if_neg h]; exact rput_two n (by omega) h1 w
end Go.Proofs.YtnehkokppobncaaDoor
