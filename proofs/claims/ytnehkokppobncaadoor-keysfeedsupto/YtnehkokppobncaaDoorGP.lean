/-
  Keys: what stands at the beginning of bytes, plainly, by the document.
  Keys: bytes from 128 on, plainly, by the document.
  Keys: what stands behind ESC, by the document.
-/
import Derived.Test.YtnehkokppobncaaDoorKGrw
import Derived.Laws.ResultCell
namespace Go.Proofs.YtnehkokppobncaaDoor
open Go.RowKit
set_option linter.unusedVariables false
set_option maxRecDepth 100000

theorem ret_cell2 {P : Program} {fn : Func} {p u : Tmp} {ty : TypeId} (h : fn.results = #[.cell p ty, .tmp u]) {a : Act} {w : World} {R : Ending → World → Prop} {g : Nat} {t : TypeId} {cs : Array Value} {fr : Nat × Nat} {d : TypeDesc}
    (hp : a.tmps.getD p undef = .pointer (some ⟨g, 0, none⟩)) (hg : w.heap[g]? = some (.cells cs t fr)) (hu : P.underlying ty = some d) (hd : (match d with | .struct _ | .array _ _ => true | _ => false) = true) (hi : (P.info? ty).map (·.size) = some cs.size)
    (hdf : a.defers = []) (hR : R (.returned (.tuple #[.agg cs, a.tmps.getD u undef])) w) : bodyPost P fn R .ret a w := by
  refine bodyPost_ret ?_ hdf hR
  rw [results_cell_tmp h, hp]
  have h1 : (asAddr (.pointer (some ⟨g, 0, none⟩))).run P w = .ok ⟨g, 0, none⟩ w := rfl
  rw [h1]
  simp only [Result.andThen]
  rw [run_loadVar_row w g t ty cs fr d hg hu hd hi]
/-- A beginning's value. -/
def stepV (p : (Int × Int) × Nat) : Value := .tuple #[.agg #[.int .i64 p.1.1, .int .i64 p.1.2], .int .i64 (p.2 : Int)]
theorem key_end2 {fn : Func} {p u : Tmp} (h : fn.results = #[.cell p 36, .tmp u]) {a : Act} {w W : World} {R : Ending → World → Prop} {Z : Nat} {c m a' b' : Int} (hk : Kb w W Z c m) (hZ : w.heap.size ≤ Z)
    (hp : a.tmps.getD p undef = .pointer (some ⟨Z, 0, none⟩)) (hdf : a.defers = []) (hR : ∀ X, Below w.heap.size w X → R (.returned (.tuple #[.agg #[.int .i64 a', .int .i64 b'], a.tmps.getD u undef])) X) :
    bodyPost Tryd.prog fn R .ret a ((W.setCell ⟨Z, 0, none⟩ (.int .i64 a')).setCell ⟨Z, 1, none⟩ (.int .i64 b')) :=
  ret_cell2 h hp (hk.put hZ a' b').key Tryd.underlying36 rfl infoKey hdf (hR _ (hk.put hZ a' b').below)
theorem lone_cases (n : Nat) (h : n < 128) : loneF n = if n = 13 ∨ n = 9 ∨ n = 127 then ((n : Int), 0) else if n = 0 then (32, 4) else if 28 ≤ n ∧ n < 32 then ((n : Int) + 64, 4) else if n < 27 then ((n : Int) + 96, 4) else ((n : Int), 0) := by
  unfold loneF
  repeat' split
  all_goals first | rfl | (exfalso; omega) | (exact Prod.ext (by simp only; omega) rfl)
set_option maxHeartbeats 8000000 in
theorem rplain_low (l : List UInt8) (hne : l ≠ []) (hl : l.length ≤ 140737488355328) (hb : (l.headD 0).toNat < 128) (w : World) : Calls Tryd.prog 17 #[.string (str l)] w fun r w' => r = .returned (stepV (plainD l)) ∧ Below w.heap.size w w' := by
  match l, hne with
  | x :: r, _ =>
    have hx : x.toNat < 128 := hb
    rw [plain_low hx, lone_cases _ hx]
    obtain ⟨B0, hB0⟩ : ∃ B0, x.toNat = B0 := ⟨_, rfl⟩
    obtain ⟨A, hA⟩ : ∃ A, str (x :: r) = A := ⟨_, rfl⟩
    have hA0 : 0 < A.size := by rw [← hA]; simp [str_size]
    have hg0 : (A[0]'hA0).toNat = B0 := by subst hA; exact hB0
    rw [hB0] at hx ⊢
    rw [hA]
    obtain ⟨V, Z, hV, hZ, HV, HZ, z0, z1, f0, f1⟩ := key_new w
    have HPz : Hid (∀ X, Below w.heap.size w X → Below Z w X) := fun X hX => by rw [← hZ]; exact hX
    clear hA hB0 hl hb
    by_cases h1 : B0 = 13 ∨ B0 = 9 ∨ B0 = 127
    · rw [if_pos h1]
      rcases h1 with rfl | rfl | rfl
      all_goals (
        go_enter Tryd.func17, Tryd.ntmps17
        go_wp2_with fail
        all_goals exact key_end2 rfl HV.out HZ.out rfl rfl fun X hX => ⟨rfl, by first | exact hX | exact HPz.out X hX⟩)
    · rw [if_neg h1]
      by_cases h2 : B0 = 0
      · rw [if_pos h2]
        subst h2
        go_enter Tryd.func17, Tryd.ntmps17
        go_wp2_with fail
        all_goals exact key_end2 rfl HV.out HZ.out rfl rfl fun X hX => ⟨rfl, by first | exact hX | exact HPz.out X hX⟩
      · rw [if_neg h2]
        have g1 : ¬ (B0 : Int) = 13 := by omega
        have g2 : ¬ (B0 : Int) = 9 := by omega
        have g3 : ¬ (B0 : Int) = 127 := by omega
        have g4 : ¬ (B0 : Int) = 0 := by omega
        have e1 : ((B0 : Int) == 13) = false := by simpa using g1
        have e2 : ((B0 : Int) == 9) = false := by simpa using g2
        have e3 : ((B0 : Int) == 127) = false := by simpa using g3
        have e4 : ((B0 : Int) == 0) = false := by simpa using g4
        by_cases h3 : 28 ≤ B0 ∧ B0 < 32
        · rw [if_pos h3]
          have g5 : (28 : Int) ≤ (B0 : Int) := by omega
          have g6 : (B0 : Int) < 32 := by omega
          clear h1 h2 h3
          go_enter Tryd.func17, Tryd.ntmps17
          go_wp2_with fail
          all_goals exact key_end2 rfl HV.out HZ.out rfl rfl fun X hX => ⟨rfl, by first | exact hX | exact HPz.out X hX⟩
        · rw [if_neg h3]
          by_cases h4 : B0 < 27
          · rw [if_pos h4]
            have g5 : ¬ (28 : Int) ≤ (B0 : Int) := by omega
            have g6 : (B0 : Int) < 27 := by omega
            clear h1 h2 h3 h4
            go_enter Tryd.func17, Tryd.ntmps17
            go_wp2_with fail
            all_goals exact key_end2 rfl HV.out HZ.out rfl rfl fun X hX => ⟨rfl, by first | exact hX | exact HPz.out X hX⟩
          · rw [if_neg h4]
            have g6 : ¬ (B0 : Int) < 27 := by omega
            have g7 : (B0 : Int) < 128 := by omega
            by_cases h5 : 28 ≤ B0
            · have g5 : (28 : Int) ≤ (B0 : Int) := by omega
              have g8 : ¬ (B0 : Int) < 32 := by omega
              clear h1 h2 h3 h4
              go_enter Tryd.func17, Tryd.ntmps17
              go_wp2_with fail
              all_goals exact key_end2 rfl HV.out HZ.out rfl rfl fun X hX => ⟨rfl, by first | exact hX | exact HPz.out X hX⟩
            · have g5 : ¬ (28 : Int) ≤ (B0 : Int) := by omega
              clear h1 h2 h3 h4
              go_enter Tryd.func17, Tryd.ntmps17
              go_wp2_with fail
              all_goals exact key_end2 rfl HV.out HZ.out rfl rfl fun X hX => ⟨rfl, by first | exact hX | exact HPz.out X hX⟩
end Go.Proofs.YtnehkokppobncaaDoor

namespace Go.Proofs.YtnehkokppobncaaDoor
open Go.RowKit
set_option linter.unusedVariables false
set_option maxRecDepth 100000

set_option maxHeartbeats 8000000 in
theorem rplain_hi (l : List UInt8) (hne : l ≠ []) (hl : l.length ≤ 140737488355328) (hb : ¬ (l.headD 0).toNat < 128) (w : World) : Calls Tryd.prog 17 #[.string (str l)] w fun r w' => r = .returned (stepV (plainD l)) ∧ Below w.heap.size w w' := by
  obtain ⟨PD, hPD⟩ : ∃ PD, plainD l = PD := ⟨_, rfl⟩
  rw [hPD]
  have hpe : PD = (match firstF l with
    | some p => if p.1 < 160 then ((0, 0), p.2) else ((p.1, 0), p.2)
    | none => if l.length < 4 ∧ growsD l = true then ((0, 0), 0) else ((0, 0), stopD l l.length 1)) := by
    rw [← hPD]
    unfold plainD
    rw [if_neg hb]
    cases firstF l <;> rfl
  obtain ⟨B0, hB0⟩ : ∃ B0, (l.headD 0).toNat = B0 := ⟨_, rfl⟩
  obtain ⟨A, hA⟩ : ∃ A, str l = A := ⟨_, rfl⟩
  obtain ⟨N, hN⟩ : ∃ N, l.length = N := ⟨_, rfl⟩
  have zA : A.size = N := by rw [← hA]; exact hN
  have hN1 : 0 < N := by rw [← hN]; exact List.length_pos_iff.2 hne
  have hA0 : 0 < A.size := by omega
  have hg0 : (A[0]'hA0).toNat = B0 := by
    subst hA
    match l, hne with
    | x :: r, _ => exact hB0
  have hx8 : B0 < 256 := by rw [← hB0]; exact (l.headD 0).toNat_lt
  rw [hB0] at hb
  have HFi := hidK (rfirst_any l hl)
  have HGr := hidK (rgrows_any l hl)
  have HAA := hidK hA
  have HNN := hidK hN
  have HHl := hidK hl
  rw [hA] at HFi HGr ⊢
  obtain ⟨V, Z, hV, hZ, HV, HZ, z0, z1, f0, f1⟩ := key_new w
  have HPz : Hid (∀ X, Below w.heap.size w X → Below Z w X) := fun X hX => by rw [← hZ]; exact hX
  have e1 : ((B0 : Int) == 13) = false := by simp only [beq_eq_false_iff_ne, ne_eq]; omega
  have e2 : ((B0 : Int) == 9) = false := by simp only [beq_eq_false_iff_ne, ne_eq]; omega
  have e3 : ((B0 : Int) == 127) = false := by simp only [beq_eq_false_iff_ne, ne_eq]; omega
  have e4 : ((B0 : Int) == 0) = false := by simp only [beq_eq_false_iff_ne, ne_eq]; omega
  have g1 : ¬ (B0 : Int) = 13 := by omega
  have g2 : ¬ (B0 : Int) = 9 := by omega
  have g3 : ¬ (B0 : Int) = 127 := by omega
  have g4 : ¬ (B0 : Int) = 0 := by omega
  have g5 : (28 : Int) ≤ (B0 : Int) := by omega
  have g6 : ¬ (B0 : Int) < 32 := by omega
  have g7 : ¬ (B0 : Int) < 27 := by omega
  have g8 : ¬ (B0 : Int) < 128 := by omega
  clear hA hB0 hPD hN hl hb
  cases hfi : firstF l with
  | some p =>
    obtain ⟨c, n⟩ := p
    rw [hfi] at HFi hpe
    simp only at hpe
    by_cases hc : c < 160
    · rw [if_pos hc] at hpe
      have HPe := hidK hpe
      clear hpe hfi
      go_enter Tryd.func17, Tryd.ntmps17
      go_wp2_with fail
      refine (HFi.out _).mono ?_
      rintro e w1 ⟨rfl, hb1⟩
      have HK := hidK (HV.out.more hb1)
      have y0 := HK.out.c0
      have y1 := HK.out.c1
      have y2 := HK.out.f 0
      have y3 := HK.out.f 1
      clear hb1
      unfold firV
      go_wp2_with fail
      all_goals exact key_end2 rfl HK.out HZ.out rfl rfl fun X hX => ⟨by rw [HPe.out]; rfl, by first | exact hX | exact HPz.out X hX⟩
    · rw [if_neg hc] at hpe
      have HPe := hidK hpe
      clear hpe hfi
      go_enter Tryd.func17, Tryd.ntmps17
      go_wp2_with fail
      refine (HFi.out _).mono ?_
      rintro e w1 ⟨rfl, hb1⟩
      have HK := hidK (HV.out.more hb1)
      have y0 := HK.out.c0
      have y1 := HK.out.c1
      have y2 := HK.out.f 0
      have y3 := HK.out.f 1
      clear hb1
      unfold firV
      go_wp2_with fail
      all_goals exact key_end2 rfl HK.out HZ.out rfl rfl fun X hX => ⟨by rw [HPe.out]; rfl, by first | exact hX | exact HPz.out X hX⟩
  | none =>
    rw [hfi] at HFi hpe
    simp only at hpe
    have HPe := hidK hpe
    have zI : (A.size : Int) = (N : Int) := by omega
    clear hpe hfi
    obtain ⟨g0, hg0'⟩ : ∃ g0, growsD l = g0 := ⟨_, rfl⟩
    rw [hg0'] at HGr HPe
    rw [HNN.out] at HPe
    obtain ⟨S, hS⟩ : ∃ S, stopD l N 1 = S := ⟨_, rfl⟩
    rw [hS] at HPe
    have HSd := hidK hS
    clear hg0' hS
    by_cases h4 : N < 4
    · have i4 : (A.size : Int) < 4 := by omega
      have i4' : (N : Int) < 4 := by omega
      cases g0 with
      | true =>
        have HPs : Hid (PD = ((0, 0), 0)) := by show _ = _; rw [HPe.out, if_pos ⟨h4, rfl⟩]
        clear h4
        go_enter Tryd.func17, Tryd.ntmps17
        go_wp2_with fail
        refine (HFi.out _).mono ?_
        rintro e w1 ⟨rfl, hb1⟩
        have HK0 := hidK (HV.out.more hb1)
        clear hb1
        unfold firV
        go_wp2_with fail
        refine (HGr.out _).mono ?_
        rintro e w2 ⟨rfl, hb2⟩
        have HK := hidK (HK0.out.more hb2)
        have y0 := HK.out.c0
        have y1 := HK.out.c1
        have y2 := HK.out.f 0
        have y3 := HK.out.f 1
        clear hb2
        go_wp2_with fail
        all_goals exact key_end2 rfl HK.out HZ.out rfl rfl fun X hX => ⟨by rw [HPs.out]; rfl, by first | exact hX | exact HPz.out X hX⟩
      | false =>
        have HPs : Hid (PD = ((0, 0), S)) := by show _ = _; rw [HPe.out, if_neg (fun q => by cases q.2)]
        clear h4
        go_enter Tryd.func17, Tryd.ntmps17
        go_wp2_with fail
        refine (HFi.out _).mono ?_
        rintro e w1 ⟨rfl, hb1⟩
        have HK0 := hidK (HV.out.more hb1)
        clear hb1
        unfold firV
        go_wp2_with fail
        refine (HGr.out _).mono ?_
        rintro e w2 ⟨rfl, hb2⟩
        have HK := hidK (HK0.out.more hb2)
        clear hb2 z0 z1 f0 f1
        go_wp2_with fail
        go_loopw [8] (fun kv wr => ∃ k : Nat, k ≤ N ∧ kv = .int .i64 k ∧ Hid (Kb w wr Z 0 0) ∧ Hid (1 ≤ k ∧ stopD l (N + 1 - k) k = S)) (fun kv _ => N + 1 - (intOf kv).toNat)
        case atStart => exact ⟨1, hN1, rfl, HK, ⟨Nat.le_refl _, by rw [Nat.add_sub_cancel]; exact HSd.out⟩⟩
        case round =>
          obtain ⟨k, hk, rfl, HKr, HSk⟩ := hrel
          by_cases hkl : k < N
          · have i1 : (k : Int) < (N : Int) := by omega
            have i2 : k + 1 ≤ A.size := by omega
            have i3 : (k : Int) + 1 ≤ 140737488355328 := by have h1 := HHl.out; have h2 := HNN.out; omega
            have i4 : (k : Int) + 1 ≤ (N : Int) := by omega
            have hsl : ∀ W : World, (Instr.slice 9 (.string A) none (some (.int .i64 ((k : Int) + 1))) none).run Tryd.prog W = .ok (.string (str (l.take (k + 1)))) W := fun W => by
              rw [← str_takeF, HAA.out]
              (have h9 := slice_to A (k + 1) i2 W; rw [Int.natCast_add] at h9; exact h9)
            have HG2 := hidK (rgrows_any (l.take (k + 1)) (by rw [List.length_take]; have := HHl.out; omega))
            obtain ⟨T, hT⟩ : ∃ T, str (l.take (k + 1)) = T := ⟨_, rfl⟩
            rw [hT] at hsl HG2
            have hstep : (k < l.length ∧ growsD (l.take (k + 1)) = true) = (growsD (l.take (k + 1)) = true) := by rw [HNN.out]; simp [hkl]
            obtain ⟨gb, hgb⟩ : ∃ gb, growsD (l.take (k + 1)) = gb := ⟨_, rfl⟩
            have HOn : Hid (gb = true → stopD l (N + 1 - (k + 1)) (k + 1) = S) := fun q => by
              rw [← HSk.out.2, show N + 1 - k = (N + 1 - (k + 1)) + 1 by omega, stop_on ⟨by rw [HNN.out]; exact hkl, by rw [hgb]; exact q⟩]
            have HOff : Hid (gb = false → k = S) := fun q => by
              rw [← HSk.out.2, stop_at (fun z => by have := z.2; rw [hgb, q] at this; cases this)]
            rw [hgb] at HG2
            have HI := hidK (And.intro hkl hk)
            clear hT hgb hstep hk
            cases gb with
            | true =>
              have HO := hidK (HOn.out rfl)
              clear HOn HOff
              go_wp2_with fail
              refine (HG2.out _).mono ?_
              rintro e w2 ⟨rfl, hb2⟩
              have HK2 := hidK (HKr.out.more hb2)
              clear hb2
              go_wp2_with fail
              go_roundw
              case rel => exact ⟨k + 1, by have := HI.out.1; omega, by first | rfl | go_num, HK2, ⟨by omega, HO.out⟩⟩
              case measure => have := HI.out.1; simp [intOf]; omega
            | false =>
              have HO := hidK (HOff.out rfl)
              clear HOn HOff
              go_wp2_with fail
              refine (HG2.out _).mono ?_
              rintro e w2 ⟨rfl, hb2⟩
              have HK2 := hidK (HKr.out.more hb2)
              have y0 := HK2.out.c0
              have y1 := HK2.out.c1
              have y2 := HK2.out.f 0
              have y3 := HK2.out.f 1
              clear hb2
              go_wp2_with fail
              all_goals exact key_end2 rfl HK2.out HZ.out rfl rfl fun X hX => ⟨by rw [HPs.out, ← HO.out]; rfl, by first | exact hX | exact HPz.out X hX⟩
          · obtain rfl : k = N := by omega
            have HSe : Hid (k = S) := by
              show _ = _
              rw [← HSk.out.2, stop_at (fun z => by have := z.1; rw [HNN.out] at this; omega)]
            have y0 := HKr.out.c0
            have y1 := HKr.out.c1
            have y2 := HKr.out.f 0
            have y3 := HKr.out.f 1
            go_wp2_with fail
            all_goals exact key_end2 rfl HKr.out HZ.out rfl rfl fun X hX => ⟨by rw [HPs.out, ← HSe.out]; rfl, by first | exact hX | exact HPz.out X hX⟩
    · have i4 : ¬ (A.size : Int) < 4 := by omega
      have i4' : ¬ (N : Int) < 4 := by omega
      have HPs : Hid (PD = ((0, 0), S)) := by show _ = _; rw [HPe.out, if_neg (fun q => h4 q.1)]
      clear h4
      go_enter Tryd.func17, Tryd.ntmps17
      go_wp2_with fail
      refine (HFi.out _).mono ?_
      rintro e w1 ⟨rfl, hb1⟩
      have HK := hidK (HV.out.more hb1)
      clear hb1 z0 z1 f0 f1
      unfold firV
      go_wp2_with fail
      go_loopw [8] (fun kv wr => ∃ k : Nat, k ≤ N ∧ kv = .int .i64 k ∧ Hid (Kb w wr Z 0 0) ∧ Hid (1 ≤ k ∧ stopD l (N + 1 - k) k = S)) (fun kv _ => N + 1 - (intOf kv).toNat)
      case atStart => exact ⟨1, hN1, rfl, HK, ⟨Nat.le_refl _, by rw [Nat.add_sub_cancel]; exact HSd.out⟩⟩
      case round =>
        obtain ⟨k, hk, rfl, HKr, HSk⟩ := hrel
        by_cases hkl : k < N
        · have i1 : (k : Int) < (N : Int) := by omega
          have i2 : k + 1 ≤ A.size := by omega
          have i3 : (k : Int) + 1 ≤ 140737488355328 := by have h1 := HHl.out; have h2 := HNN.out; omega
          have i4 : (k : Int) + 1 ≤ (N : Int) := by omega
          have hsl : ∀ W : World, (Instr.slice 9 (.string A) none (some (.int .i64 ((k : Int) + 1))) none).run Tryd.prog W = .ok (.string (str (l.take (k + 1)))) W := fun W => by
            rw [← str_takeF, HAA.out]
            (have h9 := slice_to A (k + 1) i2 W; rw [Int.natCast_add] at h9; exact h9)
          have HG2 := hidK (rgrows_any (l.take (k + 1)) (by rw [List.length_take]; have := HHl.out; omega))
          obtain ⟨T, hT⟩ : ∃ T, str (l.take (k + 1)) = T := ⟨_, rfl⟩
          rw [hT] at hsl HG2
          have hstep : (k < l.length ∧ growsD (l.take (k + 1)) = true) = (growsD (l.take (k + 1)) = true) := by rw [HNN.out]; simp [hkl]
          obtain ⟨gb, hgb⟩ : ∃ gb, growsD (l.take (k + 1)) = gb := ⟨_, rfl⟩
          have HOn : Hid (gb = true → stopD l (N + 1 - (k + 1)) (k + 1) = S) := fun q => by
            rw [← HSk.out.2, show N + 1 - k = (N + 1 - (k + 1)) + 1 by omega, stop_on ⟨by rw [HNN.out]; exact hkl, by rw [hgb]; exact q⟩]
          have HOff : Hid (gb = false → k = S) := fun q => by
            rw [← HSk.out.2, stop_at (fun z => by have := z.2; rw [hgb, q] at this; cases this)]
          rw [hgb] at HG2
          have HI := hidK (And.intro hkl hk)
          clear hT hgb hstep hk
          cases gb with
          | true =>
            have HO := hidK (HOn.out rfl)
            clear HOn HOff
            go_wp2_with fail
            refine (HG2.out _).mono ?_
            rintro e w2 ⟨rfl, hb2⟩
            have HK2 := hidK (HKr.out.more hb2)
            clear hb2
            go_wp2_with fail
            go_roundw
            case rel => exact ⟨k + 1, by have := HI.out.1; omega, by first | rfl | go_num, HK2, ⟨by omega, HO.out⟩⟩
            case measure => have := HI.out.1; simp [intOf]; omega
          | false =>
            have HO := hidK (HOff.out rfl)
            clear HOn HOff
            go_wp2_with fail
            refine (HG2.out _).mono ?_
            rintro e w2 ⟨rfl, hb2⟩
            have HK2 := hidK (HKr.out.more hb2)
            have y0 := HK2.out.c0
            have y1 := HK2.out.c1
            have y2 := HK2.out.f 0
            have y3 := HK2.out.f 1
            clear hb2
            go_wp2_with fail
            all_goals exact key_end2 rfl HK2.out HZ.out rfl rfl fun X hX => ⟨by rw [HPs.out, ← HO.out]; rfl, by first | exact hX | exact HPz.out X hX⟩
        · obtain rfl : k = N := by omega
          have HSe : Hid (k = S) := by
            show _ = _
            rw [← HSk.out.2, stop_at (fun z => by have := z.1; rw [HNN.out] at this; omega)]
          have y0 := HKr.out.c0
          have y1 := HKr.out.c1
          have y2 := HKr.out.f 0
          have y3 := HKr.out.f 1
          go_wp2_with fail
          all_goals exact key_end2 rfl HKr.out HZ.out rfl rfl fun X hX => ⟨by rw [HPs.out, ← HSe.out]; rfl, by first | exact hX | exact HPz.out X hX⟩
theorem rplain_any (l : List UInt8) (hne : l ≠ []) (hl : l.length ≤ 140737488355328) (w : World) : Calls Tryd.prog 17 #[.string (str l)] w fun r w' => r = .returned (stepV (plainD l)) ∧ Below w.heap.size w w' := by
  by_cases h : (l.headD 0).toNat < 128
  · exact rplain_low l hne hl h w
  · exact rplain_hi l hne hl h w
end Go.Proofs.YtnehkokppobncaaDoor

namespace Go.Proofs.YtnehkokppobncaaDoor
open Go.RowKit
set_option linter.unusedVariables false
set_option maxRecDepth 100000

theorem plain_le (x : UInt8) (r : List UInt8) : (plainD (x :: r)).2 ≤ (x :: r).length := by
  by_cases hx : x.toNat < 128
  · rw [plain_low hx]; simp
  · have h := plain_hi false (x := x) (by omega) r
    unfold Steps at h
    split at h
    · rename_i q; rw [q]; exact Nat.zero_le _
    · exact h.1
theorem plain_mods (x : UInt8) (r : List UInt8) : (plainD (x :: r)).1.2 = 0 ∨ (plainD (x :: r)).1.2 = 4 := by
  by_cases hx : x.toNat < 128
  · rw [plain_low hx]
    have : ∀ b : Fin 128, (loneF b.val).2 = 0 ∨ (loneF b.val).2 = 4 := by decide
    exact this ⟨x.toNat, hx⟩
  · refine .inl ?_
    unfold plainD
    rw [if_neg (by exact hx)]
    split
    · split <;> rfl
    · split <;> rfl
/-- A second key beside the one that will be told. -/
theorem two_keys (w W : World) (Z : Nat) (h : Kb w W Z 0 0) : ∃ U Y, W.alloc (.cells #[.int .i64 0, .int .i64 0] 36) = U ∧ W.heap.size = Y ∧ Hid (Kb w U Z 0 0) ∧ Hid (Kb w U Y 0 0) ∧ Hid (Y ≠ Z ∧ w.heap.size ≤ Y) :=
  ⟨_, _, rfl, rfl, h.more ((Below.refl _ _).alloc (Nat.le_refl _) _), ⟨below_step h.below ((Below.refl _ _).alloc (Nat.le_refl _) _), heap_alloc_new W _⟩, fun e => by
    have := lt_block h.key
    omega, h.below.size⟩
theorem two_put {w U : World} {Z Y : Nat} (hz : Kb w U Z 0 0) {p q : Int} (hy : Kb w U Y p q) (hn : Y ≠ Z ∧ w.heap.size ≤ Y) (a b : Int) : Kb w ((U.setCell ⟨Y, 0, none⟩ (.int .i64 a)).setCell ⟨Y, 1, none⟩ (.int .i64 b)) Z 0 0 ∧ Kb w ((U.setCell ⟨Y, 0, none⟩ (.int .i64 a)).setCell ⟨Y, 1, none⟩ (.int .i64 b)) Y a b :=
  ⟨⟨(hz.below.setCell (p := ⟨Y, 0, none⟩) hn.2 _).setCell (p := ⟨Y, 1, none⟩) hn.2 _, put_other (put_other hz.key (fun e => hn.1 e.symm) _ _) (fun e => hn.1 e.symm) _ _⟩, hy.put hn.2 a b⟩
theorem two_put1 {w U : World} {Z Y : Nat} (hz : Kb w U Z 0 0) {p q : Int} (hy : Kb w U Y p q) (hn : Y ≠ Z ∧ w.heap.size ≤ Y) (b : Int) : Kb w (U.setCell ⟨Y, 1, none⟩ (.int .i64 b)) Z 0 0 ∧ Kb w (U.setCell ⟨Y, 1, none⟩ (.int .i64 b)) Y p b :=
  ⟨⟨hz.below.setCell (p := ⟨Y, 1, none⟩) hn.2 _, put_other hz.key (fun e => hn.1 e.symm) _ _⟩, ⟨hy.below.setCell (p := ⟨Y, 1, none⟩) hn.2 _, put_at hy.key 1 _⟩⟩
set_option maxHeartbeats 8000000 in
theorem rmeta_any (x y : UInt8) (r : List UInt8) (hl : (x :: y :: r).length ≤ 140737488355328) (w : World) : Calls Tryd.prog 16 #[.string (str (x :: y :: r))] w fun q w' => q = .returned (stepV (metaD (x :: y :: r))) ∧ Below w.heap.size w w' := by
  have hm : metaD (x :: y :: r) = if y = 27 then ((27, 2), 2) else if (plainD (y :: r)).2 = 0 then ((0, 0), 0) else (if (plainD (y :: r)).1 = (0, 0) then (0, 0) else ((plainD (y :: r)).1.1, (plainD (y :: r)).1.2 + 2), (plainD (y :: r)).2 + 1) := rfl
  rw [hm]
  clear hm
  obtain ⟨A, hA⟩ : ∃ A, str (x :: y :: r) = A := ⟨_, rfl⟩
  have zA : A.size = r.length + 2 := by rw [← hA]; rfl
  have hA1 : 1 < A.size := by omega
  obtain ⟨B1, hB1⟩ : ∃ B1, y.toNat = B1 := ⟨_, rfl⟩
  have hg1 : (A[1]'hA1).toNat = B1 := by subst hA; exact hB1
  have hsl : ∀ W : World, (Instr.slice 9 (.string A) (some (.int .i64 1)) none none).run Tryd.prog W = .ok (.string (str (y :: r))) W := fun W => by
    have h := slice_from A 1 1 rfl (by omega) W
    rw [h, ← hA, str_dropF]
    rfl
  have HPl := hidK (rplain_any (y :: r) (by simp) (by simp at hl ⊢; omega))
  have hpl := plain_le y r
  have hpm := plain_mods y r
  have hpz : (plainD (y :: r)).1.1 = 0 → (plainD (y :: r)).1 = (0, 0) := fun h => by
    by_cases hy : y.toNat < 128
    · rw [plain_low hy] at h
      exact absurd h (lone_not ⟨y.toNat, hy⟩)
    · exact plain_zero hy r h
  obtain ⟨⟨⟨k1, k2⟩, n⟩, hp⟩ : ∃ p, plainD (y :: r) = p := ⟨_, rfl⟩
  rw [hp] at HPl hpl hpm hpz ⊢
  simp only at hpl hpm hpz ⊢
  have hn : n ≤ 140737488355328 := by simp at hpl hl; omega
  have h27 : (y = 27) ↔ (B1 = 27) := ⟨fun e => by rw [← hB1, e]; rfl, fun e => UInt8.toNat_inj.1 (by rw [hB1, e]; rfl)⟩
  rw [hA]
  have hB8 : B1 < 256 := by rw [← hB1]; exact y.toNat_lt
  obtain ⟨T, hT⟩ : ∃ T, str (y :: r) = T := ⟨_, rfl⟩
  rw [hT] at HPl hsl
  obtain ⟨V, Z, hV, hZ, HV, HZ, z0, z1, f0, f1⟩ := key_new w
  have HPz : Hid (∀ X, Below w.heap.size w X → Below Z w X) := fun X hX => by rw [← hZ]; exact hX
  clear hA hp hpl hT hB1 hl
  by_cases h7 : y = 27
  · rw [if_pos h7]
    have e7 : B1 = 27 := h27.1 h7
    clear HPl hpz hpm h27 h7
    subst e7
    go_enter Tryd.func16, Tryd.ntmps16
    go_wp2_with fail
    all_goals exact key_end2 rfl HV.out HZ.out rfl rfl fun X hX => ⟨rfl, by first | exact hX | exact HPz.out X hX⟩
  · rw [if_neg h7]
    have e6 : ¬ B1 = 27 := fun e => h7 (h27.2 e)
    have e7 : ¬ (B1 : Int) = 27 := by omega
    have e7' : ((B1 : Int) == 27) = false := by simpa using e7
    clear h27 h7
    by_cases hn0 : n = 0
    · rw [if_pos hn0]
      subst hn0
      clear hpz e6
      go_enter Tryd.func16, Tryd.ntmps16
      go_wp2_with fail
      refine (HPl.out _).mono ?_
      rintro e w1 ⟨rfl, hb1⟩
      obtain ⟨U, Y, hU, hY, HK, HY, HN⟩ := two_keys w w1 Z (HV.out.more hb1)
      have y0 := HY.out.c0
      have y1 := HY.out.c1
      have y2 := HY.out.f 0
      have y3 := HY.out.f 1
      obtain ⟨X, hX⟩ : ∃ X, (U.setCell ⟨Y, 0, none⟩ (.int .i64 k1)).setCell ⟨Y, 1, none⟩ (.int .i64 k2) = X := ⟨_, rfl⟩
      have hq := two_put HK.out HY.out HN.out k1 k2
      rw [hX] at hq
      have HX := hidK hq.1
      have x0 := HX.out.c0
      have x1 := HX.out.c1
      have x2 := HX.out.f 0
      have x3 := HX.out.f 1
      unfold stepV
      clear hb1 hq
      go_wp2_with fail
      all_goals exact key_end2 rfl HX.out HZ.out rfl rfl fun X hX => ⟨rfl, by first | exact hX | exact HPz.out X hX⟩
    · rw [if_neg hn0]
      have n0 : ¬ (n : Int) = 0 := by omega
      have n0' : ((n : Int) == 0) = false := by simpa using n0
      have n1 : (n : Int) ≤ 140737488355328 := by omega
      by_cases hz : (k1, k2) = (0, 0)
      · rw [if_pos hz]
        cases hz
        clear hpz e6 hn0
        go_enter Tryd.func16, Tryd.ntmps16
        go_wp2_with fail
        refine (HPl.out _).mono ?_
        rintro e w1 ⟨rfl, hb1⟩
        obtain ⟨U, Y, hU, hY, HK, HY, HN⟩ := two_keys w w1 Z (HV.out.more hb1)
        have y0 := HY.out.c0
        have y1 := HY.out.c1
        have y2 := HY.out.f 0
        have y3 := HY.out.f 1
        obtain ⟨X, hX⟩ : ∃ X, (U.setCell ⟨Y, 0, none⟩ (.int .i64 0)).setCell ⟨Y, 1, none⟩ (.int .i64 0) = X := ⟨_, rfl⟩
        have hq := two_put HK.out HY.out HN.out 0 0
        rw [hX] at hq
        have HX := hidK hq.1
        have x0 := HX.out.c0
        have x1 := HX.out.c1
        have x2 := HX.out.f 0
        have x3 := HX.out.f 1
        have v0 := hq.2.c0
        have v1 := hq.2.c1
        unfold stepV
        clear hb1 hq
        go_wp2_with fail
        all_goals exact key_end2 rfl HX.out HZ.out rfl rfl fun X hX => ⟨rfl, by first | exact hX | exact HPz.out X hX⟩
      · rw [if_neg hz]
        have k10 : ¬ k1 = 0 := fun e => hz (hpz e)
        have k10' : (k1 == 0) = false := by simpa using k10
        have kw : IntKind.i64.wrap (k2 + 2) = k2 + 2 := by rcases hpm with e | e <;> rw [e] <;> rfl
        have kb : 0 ≤ k2 ∧ k2 ≤ 4 := by omega
        clear hpz e6 hn0 hz hpm
        go_enter Tryd.func16, Tryd.ntmps16
        go_wp2_with fail
        refine (HPl.out _).mono ?_
        rintro e w1 ⟨rfl, hb1⟩
        obtain ⟨U, Y, hU, hY, HK, HY, HN⟩ := two_keys w w1 Z (HV.out.more hb1)
        have y0 := HY.out.c0
        have y1 := HY.out.c1
        have y2 := HY.out.f 0
        have y3 := HY.out.f 1
        obtain ⟨X, hX⟩ : ∃ X, (U.setCell ⟨Y, 0, none⟩ (.int .i64 k1)).setCell ⟨Y, 1, none⟩ (.int .i64 k2) = X := ⟨_, rfl⟩
        have hq := two_put HK.out HY.out HN.out k1 k2
        rw [hX] at hq
        have v0 := hq.2.c0
        have v1 := hq.2.c1
        have v2 := hq.2.f 1
        obtain ⟨X2, hX2⟩ : ∃ X2, X.setCell ⟨Y, 1, none⟩ (.int .i64 (k2 + 2)) = X2 := ⟨_, rfl⟩
        have hq2 := two_put1 hq.1 hq.2 HN.out (k2 + 2)
        rw [hX2] at hq2
        have HX := hidK hq2.1
        have x0 := HX.out.c0
        have x1 := HX.out.c1
        have x2 := HX.out.f 0
        have x3 := HX.out.f 1
        have t0 := hq2.2.c0
        have t1 := hq2.2.c1
        unfold stepV
        clear hb1 hq hq2
        go_wp2_with fail
        all_goals exact key_end2 rfl HX.out HZ.out rfl rfl fun X hX => ⟨rfl, by first | exact hX | exact HPz.out X hX⟩
end Go.Proofs.YtnehkokppobncaaDoor
