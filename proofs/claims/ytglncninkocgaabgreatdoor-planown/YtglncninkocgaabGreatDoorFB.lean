/-
  Plans: the document's cell, whatever the text is.
-/
import Derived.Test.YtglncninkocgaabGreatDoorFA
namespace Go.Proofs.YtglncninkocgaabGreatDoor
open Go.RowKit
set_option linter.unusedVariables false
set_option maxRecDepth 20000

theorem refNum_none (s0 : List UInt8) (w : World) (hl : s0.length ≤ 2048) (hn : numF s0 = none) : Calls Tryz.prog 30 #[.string (str s0)] w fun e w' => (∃ (k : Int) (x : ByteArray), e = .returned (.tuple #[.int .i64 k, .string x, .bool false])) ∧ Below w.heap.size w w' := by
  refine (refNum_any s0 w (by omega)).mono ?_
  rintro e w' ⟨⟨k, rfl, _⟩, hb⟩
  rw [hn]
  exact ⟨⟨_, _, rfl⟩, hb⟩
theorem refNum_some (s0 : List UInt8) (w : World) (hl : s0.length ≤ 2048) (n : Int) (r : List UInt8) (hn : numF s0 = some (n, r)) : Calls Tryz.prog 30 #[.string (str s0)] w fun e w' => e = .returned (.tuple #[.int .i64 n, .string (str r), .bool true]) ∧ Below w.heap.size w w' := by
  refine (refNum_any s0 w (by omega)).mono ?_
  rintro e w' ⟨⟨k, rfl, h⟩, hb⟩
  have := h _ hn
  cases this
  rw [hn]
  exact ⟨rfl, hb⟩
theorem own_made (W : World) (B : Nat) (c : CellV) (hB : B ≤ W.heap.size) : CeOwns (W.alloc (.cells c.vals 36)) B (.slice (some ⟨W.heap.size, 0, none⟩) 1 1) [c] := ⟨rfl, .inr ⟨W.heap.size, 1, c.vals, rfl, hB, (MapKept.heap_alloc W _).1, Nat.le_refl _, by decide, rfl, by simp [ceCells, CellV.vals]⟩⟩

set_option maxHeartbeats 8000000 in
theorem cel_any (N : Nat) (hp : ∀ k, k < N → ParG k) : CelG N := by
  intro s d w hf hd0 hd1
  cases N with
  | zero => omega
  | succ n =>
  obtain ⟨RR, hRR⟩ : ∃ R, cellF (n + 1) s = R := ⟨_, rfl⟩
  have HR := hidden hRR
  rw [hRR]
  have HP := hidden (hp n (by omega))
  have HN0 : Hid (∀ s0 X, s0.length ≤ 2048 → numF s0 = none → Calls Tryz.prog 30 #[.string (str s0)] X fun e w' => (∃ (k : Int) (x : ByteArray), e = .returned (.tuple #[.int .i64 k, .string x, .bool false])) ∧ Below X.heap.size X w') := fun s0 X h1 h2 => refNum_none s0 X h1 h2
  have HN1 : Hid (∀ s0 X n r, s0.length ≤ 2048 → numF s0 = some (n, r) → Calls Tryz.prog 30 #[.string (str s0)] X fun e w' => e = .returned (.tuple #[.int .i64 n, .string (str r), .bool true]) ∧ Below X.heap.size X w') := fun s0 X n r h1 h2 => refNum_some s0 X h1 n r h2
  have HA0 : Hid (∀ (x : ByteArray) (c : UInt8) X, Calls Tryz.prog 31 #[.string x, .int .u8 c.toNat, .bool false] X fun e w' => e = .returned (.tuple #[.string ⟨#[]⟩, .bool false]) ∧ X = w') := fun x c X => after_no x c X
  have HA1 : Hid (∀ (s0 : List UInt8) (c : UInt8) X, s0.length ≤ 2048 → expF c s0 = none → Calls Tryz.prog 31 #[.string (str s0), .int .u8 c.toNat, .bool true] X fun e w' => e = .returned (.tuple #[.string ⟨#[]⟩, .bool false]) ∧ X = w') := fun s0 c X h1 h2 => by
    have h := after_yes s0 c X (by omega)
    rw [h2] at h
    exact h
  have HA2 : Hid (∀ (s0 r : List UInt8) (c : UInt8) X, s0.length ≤ 2048 → expF c s0 = some r → Calls Tryz.prog 31 #[.string (str s0), .int .u8 c.toNat, .bool true] X fun e w' => e = .returned (.tuple #[.string (str r), .bool true]) ∧ X = w') := fun s0 r c X h1 h2 => by
    have h := after_yes s0 c X (by omega)
    rw [h2] at h
    exact h
  have HC0 : Hid (CB w (w.alloc (.cells #[.int .i64 d, .int .i64 0, .int .i64 0, .int .i64 0, .int .i64 0, .int .i64 0, .int .i64 0] 36)) #[.int .i64 d, .int .i64 0, .int .i64 0, .int .i64 0, .int .i64 0, .int .i64 0, .int .i64 0]) := CB.first w _
  have HL0 : Hid (s.length ≤ 2048) := by show _ ≤ _; omega
  have HF0 := hidden hf
  have HD1 := hidden hd1
  have hdb : d ≤ 256 := by omega
  clear hp hRR hf hd1
  go_enter Tryz.func17, Tryz.ntmps17
  go_wp2_with fail
  cases hq1 : numF s with
  | none =>
    have HQ1 := hidden hq1
    have hnone : RR = none := by
      rw [← HR.out]
      unfold cellF
      have hb : boxF s = none := by
        unfold boxF
        rw [HQ1.out]
        rfl
      rw [hb]
    subst hnone
    have C := hidden (fun X => HN0.out s X HL0.out HQ1.out)
    clear hq1
    refine (C.out _).mono ?_
    rintro e w1 ⟨⟨k, x, rfl⟩, hb1⟩
    have h1 := HC0.out.below hb1
    have y := (h1.cell 4).1
    have fz := (h1.cell 4).2
    simp only [List.getElem?_toArray, List.getElem?_cons_succ, List.getElem?_cons_zero] at y
    have HB := hidden (h1.set 4 (.int .i64 k) rfl).b
    clear h1 hb1
    go_wp2_with (go_at_call 31; refine (HA0.out _ 120 _).mono ?_; rintro e w2 ⟨rfl, rfl⟩)
    exact bodyPost_ret (results_tmp3 rfl _ _ _) rfl ⟨⟨_, _, rfl⟩, HB.out⟩
  | some p =>
    obtain ⟨bw, s1⟩ := p
    have HQ1 := hidden hq1
    have HLL1 : Hid (s1.length + 1 ≤ s.length) := by
      show _ ≤ _
      obtain ⟨e1, r1, _⟩ := numF_some hq1
      have h1 := congrArg List.length e1
      have h2 := num_len r1
      rw [List.length_append] at h1
      omega
    have HL1 : Hid (s1.length ≤ 2048) := by show _ ≤ _; have := HLL1.out; have := HL0.out; omega
    have C1 := hidden (fun X => HN1.out s X bw s1 HL0.out hq1)
    clear hq1
    refine (C1.out _).mono ?_
    rintro e w1 ⟨rfl, hb1⟩
    have h1 := HC0.out.below hb1
    have y1 := (h1.cell 4).1
    have f1 := (h1.cell 4).2
    simp only [List.getElem?_toArray, List.getElem?_cons_succ, List.getElem?_cons_zero] at y1
    have HC1 : Hid (CB w (w1.setCell ⟨w.heap.size, 4, none⟩ (.int .i64 bw)) #[.int .i64 d, .int .i64 0, .int .i64 0, .int .i64 0, .int .i64 bw, .int .i64 0, .int .i64 0]) := h1.set 4 (.int .i64 bw) rfl
    clear h1 hb1 C1 HC0
    cases hq2 : expF 120 s1 with
    | none =>
      have HQ2 := hidden hq2
      have hnone : RR = none := by
        rw [← HR.out]
        unfold cellF
        have hb : boxF s = none := by
          unfold boxF
          rw [HQ1.out]
          simp only [Option.bind_some]
          rw [HQ2.out]
          rfl
        rw [hb]
      subst hnone
      have HB := hidden HC1.out.b
      have C := hidden (fun X => HA1.out s1 120 X HL1.out hq2)
      clear hq2
      go_wp2_with (go_at_call 31; refine (C.out _).mono ?_; rintro e w2 ⟨rfl, rfl⟩)
      exact bodyPost_ret (results_tmp3 rfl _ _ _) rfl ⟨⟨_, _, rfl⟩, HB.out⟩
    | some s2 =>
      have HQ2 := hidden hq2
      have HLL2 : Hid (s2.length + 1 ≤ s1.length) := by
        show _ ≤ _
        have h1 := congrArg List.length (expF_some hq2)
        simp at h1
        omega
      have HL2 : Hid (s2.length ≤ 2048) := by show _ ≤ _; have := HLL2.out; have := HL1.out; omega
      have C2 := hidden (fun X => HA2.out s1 s2 120 X HL1.out hq2)
      clear hq2
      go_wp2_with (go_at_call 31; refine (C2.out _).mono ?_; rintro e w2 ⟨rfl, rfl⟩)
      clear C2
      cases hq3 : numF s2 with
      | none =>
        have HQ3 := hidden hq3
        have hnone : RR = none := by
          rw [← HR.out]
          unfold cellF
          have hb : boxF s = none := by
            unfold boxF
            rw [HQ1.out]
            simp only [Option.bind_some]
            rw [HQ2.out]
            simp only [Option.bind_some]
            rw [HQ3.out]
            rfl
          rw [hb]
        subst hnone
        have C := hidden (fun X => HN0.out s2 X HL2.out HQ3.out)
        clear hq3
        refine (C.out _).mono ?_
        rintro e w1 ⟨⟨k, x, rfl⟩, hb1⟩
        have h1 := HC1.out.below hb1
        have y := (h1.cell 5).1
        have fz := (h1.cell 5).2
        simp only [List.getElem?_toArray, List.getElem?_cons_succ, List.getElem?_cons_zero] at y
        have HB := hidden (h1.set 5 (.int .i64 k) rfl).b
        clear h1 hb1
        go_wp2_with (go_at_call 31; refine (HA0.out _ 44 _).mono ?_; rintro e w2 ⟨rfl, rfl⟩)
        exact bodyPost_ret (results_tmp3 rfl _ _ _) rfl ⟨⟨_, _, rfl⟩, HB.out⟩
      | some p =>
        obtain ⟨bh, s3⟩ := p
        have HQ3 := hidden hq3
        have HLL3 : Hid (s3.length + 1 ≤ s2.length) := by
          show _ ≤ _
          obtain ⟨e1, r1, _⟩ := numF_some hq3
          have h1 := congrArg List.length e1
          have h2 := num_len r1
          rw [List.length_append] at h1
          omega
        have HL3 : Hid (s3.length ≤ 2048) := by show _ ≤ _; have := HLL3.out; have := HL2.out; omega
        have C3 := hidden (fun X => HN1.out s2 X bh s3 HL2.out hq3)
        clear hq3
        refine (C3.out _).mono ?_
        rintro e w3 ⟨rfl, hb3⟩
        have h3 := HC1.out.below hb3
        have y3 := (h3.cell 5).1
        have f3 := (h3.cell 5).2
        simp only [List.getElem?_toArray, List.getElem?_cons_succ, List.getElem?_cons_zero] at y3
        have HC3 : Hid (CB w (w3.setCell ⟨w.heap.size, 5, none⟩ (.int .i64 bh)) #[.int .i64 d, .int .i64 0, .int .i64 0, .int .i64 0, .int .i64 bw, .int .i64 bh, .int .i64 0]) := h3.set 5 (.int .i64 bh) rfl
        clear h3 hb3 C3 HC1
        cases hq4 : expF 44 s3 with
        | none =>
          have HQ4 := hidden hq4
          have hnone : RR = none := by
            rw [← HR.out]
            unfold cellF
            have hb : boxF s = none := by
              unfold boxF
              rw [HQ1.out]
              simp only [Option.bind_some]
              rw [HQ2.out]
              simp only [Option.bind_some]
              rw [HQ3.out]
              simp only [Option.bind_some]
              rw [HQ4.out]
              rfl
            rw [hb]
          subst hnone
          have HB := hidden HC3.out.b
          have C := hidden (fun X => HA1.out s3 44 X HL3.out hq4)
          clear hq4
          go_wp2_with (go_at_call 31; refine (C.out _).mono ?_; rintro e w2 ⟨rfl, rfl⟩)
          exact bodyPost_ret (results_tmp3 rfl _ _ _) rfl ⟨⟨_, _, rfl⟩, HB.out⟩
        | some s4 =>
          have HQ4 := hidden hq4
          have HLL4 : Hid (s4.length + 1 ≤ s3.length) := by
            show _ ≤ _
            have h1 := congrArg List.length (expF_some hq4)
            simp at h1
            omega
          have HL4 : Hid (s4.length ≤ 2048) := by show _ ≤ _; have := HLL4.out; have := HL3.out; omega
          have C4 := hidden (fun X => HA2.out s3 s4 44 X HL3.out hq4)
          clear hq4
          go_wp2_with (go_at_call 31; refine (C4.out _).mono ?_; rintro e w4 ⟨rfl, rfl⟩)
          clear C4
          cases hq5 : numF s4 with
          | none =>
            have HQ5 := hidden hq5
            have hnone : RR = none := by
              rw [← HR.out]
              unfold cellF
              have hb : boxF s = none := by
                unfold boxF
                rw [HQ1.out]
                simp only [Option.bind_some]
                rw [HQ2.out]
                simp only [Option.bind_some]
                rw [HQ3.out]
                simp only [Option.bind_some]
                rw [HQ4.out]
                simp only [Option.bind_some]
                rw [HQ5.out]
                rfl
              rw [hb]
            subst hnone
            have C := hidden (fun X => HN0.out s4 X HL4.out HQ5.out)
            clear hq5
            refine (C.out _).mono ?_
            rintro e w1 ⟨⟨k, x, rfl⟩, hb1⟩
            have h1 := HC3.out.below hb1
            have y := (h1.cell 2).1
            have fz := (h1.cell 2).2
            simp only [List.getElem?_toArray, List.getElem?_cons_succ, List.getElem?_cons_zero] at y
            have HB := hidden (h1.set 2 (.int .i64 k) rfl).b
            clear h1 hb1
            go_wp2_with (go_at_call 31; refine (HA0.out _ 44 _).mono ?_; rintro e w2 ⟨rfl, rfl⟩)
            exact bodyPost_ret (results_tmp3 rfl _ _ _) rfl ⟨⟨_, _, rfl⟩, HB.out⟩
          | some p =>
            obtain ⟨bx, s5⟩ := p
            have HQ5 := hidden hq5
            have HLL5 : Hid (s5.length + 1 ≤ s4.length) := by
              show _ ≤ _
              obtain ⟨e1, r1, _⟩ := numF_some hq5
              have h1 := congrArg List.length e1
              have h2 := num_len r1
              rw [List.length_append] at h1
              omega
            have HL5 : Hid (s5.length ≤ 2048) := by show _ ≤ _; have := HLL5.out; have := HL4.out; omega
            have C5 := hidden (fun X => HN1.out s4 X bx s5 HL4.out hq5)
            clear hq5
            refine (C5.out _).mono ?_
            rintro e w5 ⟨rfl, hb5⟩
            have h5 := HC3.out.below hb5
            have y5 := (h5.cell 2).1
            have f5 := (h5.cell 2).2
            simp only [List.getElem?_toArray, List.getElem?_cons_succ, List.getElem?_cons_zero] at y5
            have HC5 : Hid (CB w (w5.setCell ⟨w.heap.size, 2, none⟩ (.int .i64 bx)) #[.int .i64 d, .int .i64 0, .int .i64 bx, .int .i64 0, .int .i64 bw, .int .i64 bh, .int .i64 0]) := h5.set 2 (.int .i64 bx) rfl
            clear h5 hb5 C5 HC3
            cases hq6 : expF 44 s5 with
            | none =>
              have HQ6 := hidden hq6
              have hnone : RR = none := by
                rw [← HR.out]
                unfold cellF
                have hb : boxF s = none := by
                  unfold boxF
                  rw [HQ1.out]
                  simp only [Option.bind_some]
                  rw [HQ2.out]
                  simp only [Option.bind_some]
                  rw [HQ3.out]
                  simp only [Option.bind_some]
                  rw [HQ4.out]
                  simp only [Option.bind_some]
                  rw [HQ5.out]
                  simp only [Option.bind_some]
                  rw [HQ6.out]
                  rfl
                rw [hb]
              subst hnone
              have HB := hidden HC5.out.b
              have C := hidden (fun X => HA1.out s5 44 X HL5.out hq6)
              clear hq6
              go_wp2_with (go_at_call 31; refine (C.out _).mono ?_; rintro e w2 ⟨rfl, rfl⟩)
              exact bodyPost_ret (results_tmp3 rfl _ _ _) rfl ⟨⟨_, _, rfl⟩, HB.out⟩
            | some s6 =>
              have HQ6 := hidden hq6
              have HLL6 : Hid (s6.length + 1 ≤ s5.length) := by
                show _ ≤ _
                have h1 := congrArg List.length (expF_some hq6)
                simp at h1
                omega
              have HL6 : Hid (s6.length ≤ 2048) := by show _ ≤ _; have := HLL6.out; have := HL5.out; omega
              have C6 := hidden (fun X => HA2.out s5 s6 44 X HL5.out hq6)
              clear hq6
              go_wp2_with (go_at_call 31; refine (C6.out _).mono ?_; rintro e w6 ⟨rfl, rfl⟩)
              clear C6
              cases hq7 : numF s6 with
              | none =>
                have HQ7 := hidden hq7
                have hnone : RR = none := by
                  rw [← HR.out]
                  unfold cellF
                  have hb : boxF s = none := by
                    unfold boxF
                    rw [HQ1.out]
                    simp only [Option.bind_some]
                    rw [HQ2.out]
                    simp only [Option.bind_some]
                    rw [HQ3.out]
                    simp only [Option.bind_some]
                    rw [HQ4.out]
                    simp only [Option.bind_some]
                    rw [HQ5.out]
                    simp only [Option.bind_some]
                    rw [HQ6.out]
                    simp only [Option.bind_some]
                    rw [HQ7.out]
                    rfl
                  rw [hb]
                subst hnone
                have C := hidden (fun X => HN0.out s6 X HL6.out HQ7.out)
                clear hq7
                refine (C.out _).mono ?_
                rintro e w1 ⟨⟨k, x, rfl⟩, hb1⟩
                have h1 := HC5.out.below hb1
                have y := (h1.cell 3).1
                have fz := (h1.cell 3).2
                simp only [List.getElem?_toArray, List.getElem?_cons_succ, List.getElem?_cons_zero] at y
                have HB := hidden (h1.set 3 (.int .i64 k) rfl).b
                clear h1 hb1
                go_wp2
                exact bodyPost_ret (results_tmp3 rfl _ _ _) rfl ⟨⟨_, _, rfl⟩, HB.out⟩
              | some p =>
                obtain ⟨by_, s7⟩ := p
                have HQ7 := hidden hq7
                have HLL7 : Hid (s7.length + 1 ≤ s6.length) := by
                  show _ ≤ _
                  obtain ⟨e1, r1, _⟩ := numF_some hq7
                  have h1 := congrArg List.length e1
                  have h2 := num_len r1
                  rw [List.length_append] at h1
                  omega
                have HL7 : Hid (s7.length ≤ 2048) := by show _ ≤ _; have := HLL7.out; have := HL6.out; omega
                have C7 := hidden (fun X => HN1.out s6 X by_ s7 HL6.out hq7)
                clear hq7
                refine (C7.out _).mono ?_
                rintro e w7 ⟨rfl, hb7⟩
                have h7 := HC5.out.below hb7
                have y7 := (h7.cell 3).1
                have f7 := (h7.cell 3).2
                simp only [List.getElem?_toArray, List.getElem?_cons_succ, List.getElem?_cons_zero] at y7
                have HC7 : Hid (CB w (w7.setCell ⟨w.heap.size, 3, none⟩ (.int .i64 by_)) #[.int .i64 d, .int .i64 0, .int .i64 bx, .int .i64 by_, .int .i64 bw, .int .i64 bh, .int .i64 0]) := h7.set 3 (.int .i64 by_) rfl
                clear h7 hb7 C7 HC5
                have HBx : Hid (boxF s = some ((⟨bx, by_, bw, bh⟩ : Box), s7)) := by
                  show _ = _
                  unfold boxF
                  rw [HQ1.out]
                  simp only [Option.bind_some]
                  rw [HQ2.out]
                  simp only [Option.bind_some]
                  rw [HQ3.out]
                  simp only [Option.bind_some]
                  rw [HQ4.out]
                  simp only [Option.bind_some]
                  rw [HQ5.out]
                  simp only [Option.bind_some]
                  rw [HQ6.out]
                  simp only [Option.bind_some]
                  rw [HQ7.out]
                  rfl
                have HLs : Hid (s7.length + 7 ≤ s.length) := by show _ ≤ _; have := HLL1.out; have := HLL2.out; have := HLL3.out; have := HLL4.out; have := HLL5.out; have := HLL6.out; have := HLL7.out; omega
                have hR := HR.out
                unfold cellF at hR
                rw [HBx.out] at hR
                clear HQ1 HQ2 HQ3 HQ4 HQ5 HQ6 HQ7 HLL1 HLL2 HLL3 HLL4 HLL5 HLL6 HLL7 HL1 HL2 HL3 HL4 HL5 HL6 HBx HR HA0 HA1 HA2
                cases s7 with
                | nil =>
                  simp only [] at hR
                  subst hR
                  have HB := hidden HC7.out.b
                  have est : str [] = ⟨#[]⟩ := rfl
                  rw [est]
                  clear est
                  go_wp2
                  exact bodyPost_ret (results_tmp3 rfl _ _ _) rfl ⟨⟨_, _, rfl⟩, HB.out⟩
                | cons c r =>
                  simp only [] at hR
                  have HMr : Hid (r.length ≤ 2048) := by show _ ≤ _; have := HL7.out; simp at this; omega
                  have HLr : Hid (r.length + 8 ≤ s.length) := by show _ ≤ _; have := HLs.out; simp at this; omega
                  obtain ⟨S7, hS7⟩ : ∃ S, str (c :: r) = S := ⟨_, rfl⟩
                  have hSz : S7.size = r.length + 1 := by rw [← hS7]; rfl
                  have hSg : ∀ h : 0 < S7.size, S7[0] = c := fun h => by subst hS7; exact str_get _ 0 c rfl h
                  have hS0 := hSg (by omega)
                  have HE : Hid (S7.extract 1 (r.length + 1) = str r) := by rw [← hS7]; exact str_drop (c :: r) 1
                  obtain ⟨n1, n2⟩ := toList_ne0 (s := S7) (by omega)
                  have hr2 : r.length ≤ 2048 := HMr.out
                  have HS7 := hidden hS7
                  rw [hS7]
                  have m1 := (HC7.out.cell 1).1
                  have g1 := (HC7.out.cell 1).2
                  simp only [List.getElem?_toArray, List.getElem?_cons_succ, List.getElem?_cons_zero] at m1
                  clear hSg hS7 HLs HL7
                  by_cases h44 : c = 44
                  · subst h44
                    have hb44 : ((44 : UInt8).toNat : Int) = 44 := rfl
                    rw [if_pos rfl] at hR
                    have HC8 : Hid (CB w ((w7.setCell ⟨w.heap.size, 3, none⟩ (.int .i64 by_)).setCell ⟨w.heap.size, 1, none⟩ (.int .i64 1)) #[.int .i64 d, .int .i64 1, .int .i64 bx, .int .i64 by_, .int .i64 bw, .int .i64 bh, .int .i64 0]) := HC7.out.set 1 (.int .i64 1) rfl
                    cases hq9 : numF r with
                    | none =>
                      rw [hq9] at hR
                      simp only [Option.map_none] at hR
                      subst hR
                      have C := hidden (fun X => HN0.out r X HMr.out hq9)
                      clear hq9 HC7
                      go_wp2_with fail
                      rw [HE.out]
                      refine (C.out _).mono ?_
                      rintro e w9 ⟨⟨k, x, rfl⟩, hb9⟩
                      have h9 := HC8.out.below hb9
                      have y := (h9.cell 6).1
                      have fz := (h9.cell 6).2
                      simp only [List.getElem?_toArray, List.getElem?_cons_succ, List.getElem?_cons_zero] at y
                      have h10 := h9.set 6 (.int .i64 k) rfl
                      have z0 := (h10.cell 0).1
                      have z1 := (h10.cell 1).1
                      have z2 := (h10.cell 2).1
                      have z3 := (h10.cell 3).1
                      have z4 := (h10.cell 4).1
                      have z5 := (h10.cell 5).1
                      have z6 := (h10.cell 6).1
                      simp only [List.setIfInBounds_toArray, List.set_cons_succ, List.set_cons_zero, List.getElem?_toArray, List.getElem?_cons_succ, List.getElem?_cons_zero] at z0 z1 z2 z3 z4 z5 z6
                      have HB := hidden (below_step h10.b ((Below.refl _ _).alloc (Nat.le_refl _) (.cells #[.int .i64 d, .int .i64 1, .int .i64 bx, .int .i64 by_, .int .i64 bw, .int .i64 bh, .int .i64 k] 36)))
                      clear h9 h10 hb9
                      go_wp2
                      exact bodyPost_ret (results_tmp3 rfl _ _ _) rfl ⟨⟨_, _, rfl⟩, HB.out⟩
                    | some p =>
                      obtain ⟨pn, m⟩ := p
                      rw [hq9] at hR
                      simp only [Option.map_some] at hR
                      subst hR
                      have C := hidden (fun X => HN1.out r X pn m HMr.out hq9)
                      clear hq9 HC7
                      go_wp2_with fail
                      rw [HE.out]
                      refine (C.out _).mono ?_
                      rintro e w9 ⟨rfl, hb9⟩
                      have h9 := HC8.out.below hb9
                      have y := (h9.cell 6).1
                      have fz := (h9.cell 6).2
                      simp only [List.getElem?_toArray, List.getElem?_cons_succ, List.getElem?_cons_zero] at y
                      have h10 := h9.set 6 (.int .i64 pn) rfl
                      have z0 := (h10.cell 0).1
                      have z1 := (h10.cell 1).1
                      have z2 := (h10.cell 2).1
                      have z3 := (h10.cell 3).1
                      have z4 := (h10.cell 4).1
                      have z5 := (h10.cell 5).1
                      have z6 := (h10.cell 6).1
                      simp only [List.setIfInBounds_toArray, List.set_cons_succ, List.set_cons_zero, List.getElem?_toArray, List.getElem?_cons_succ, List.getElem?_cons_zero] at z0 z1 z2 z3 z4 z5 z6
                      have HB := hidden (below_step h10.b ((Below.refl _ _).alloc (Nat.le_refl _) (.cells #[.int .i64 d, .int .i64 1, .int .i64 bx, .int .i64 by_, .int .i64 bw, .int .i64 bh, .int .i64 pn] 36)))
                      have HO := hidden (own_made (w9.setCell ⟨w.heap.size, 6, none⟩ (.int .i64 pn)) w.heap.size ⟨d, 1, bx, by_, bw, bh, pn⟩ h10.b.size)
                      unfold CellV.vals at HO
                      have hsz9 : (w9.setCell ⟨w.heap.size, 6, none⟩ (.int .i64 pn)).heap.size = w9.heap.size := by simp [World.setCell]
                      rw [hsz9] at HO
                      clear h9 h10 hb9 hsz9
                      go_wp2
                      exact bodyPost_ret (results_tmp3 rfl _ _ _) rfl ⟨⟨_, _, _, rfl, HO.out⟩, HB.out⟩
                  · rw [if_neg h44] at hR
                    have hn44 : ¬ (c.toNat : Int) = 44 := fun e => h44 (UInt8.toNat_inj.1 (by simpa using (by omega : c.toNat = 44)))
                    by_cases h123 : c = 123
                    · subst h123
                      have hbb : ((123 : UInt8).toNat : Int) = 123 := rfl
                      rw [if_pos rfl] at hR
                      have h8 : CB w ((w7.setCell ⟨w.heap.size, 3, none⟩ (.int .i64 by_)).setCell ⟨w.heap.size, 1, none⟩ (.int .i64 2)) #[.int .i64 d, .int .i64 2, .int .i64 bx, .int .i64 by_, .int .i64 bw, .int .i64 bh, .int .i64 0] := HC7.out.set 1 (.int .i64 2) rfl
                      have z0 := (h8.cell 0).1
                      have z1 := (h8.cell 1).1
                      have z2 := (h8.cell 2).1
                      have z3 := (h8.cell 3).1
                      have z4 := (h8.cell 4).1
                      have z5 := (h8.cell 5).1
                      have z6 := (h8.cell 6).1
                      simp only [List.getElem?_toArray, List.getElem?_cons_succ, List.getElem?_cons_zero] at z0 z1 z2 z3 z4 z5 z6
                      have HB := hidden h8.b
                      have HPx : Hid (∀ X, Calls Tryz.prog 32 #[.agg #[.int .i64 d, .int .i64 2, .int .i64 bx, .int .i64 by_, .int .i64 bw, .int .i64 bh, .int .i64 0], .string S7, .int .u8 125] X (ParPost X ⟨d, 2, bx, by_, bw, bh, 0⟩ (partsF n 125 r))) := fun X => by
                        rw [← HS7.out]
                        exact HP.out 125 123 r ⟨d, 2, bx, by_, bw, bh, 0⟩ X (by decide) (by have := HF0.out; have := HLr.out; omega) hd0 (by have := HD1.out; have := HLr.out; show 8 * (d + 1) + _ ≤ 2048; omega)
                      clear HC7 h8 HP
                      cases hq9 : partsF n 125 r with
                      | none =>
                        rw [hq9] at hR HPx
                        simp only [Option.map_none] at hR
                        subst hR
                        have HPy : Hid (∀ X, Calls Tryz.prog 32 #[.agg #[.int .i64 d, .int .i64 2, .int .i64 bx, .int .i64 by_, .int .i64 bw, .int .i64 bh, .int .i64 0], .string S7, .int .u8 125] X fun e w' => (∃ sl x, e = .returned (.tuple #[sl, .string x, .bool false])) ∧ Below X.heap.size X w') := fun X => HPx.out X
                        clear hq9 HPx
                        go_wp2_with (go_at_call 32; refine (HPy.out _).mono ?_; rintro e w9 ⟨⟨sl, x, rfl⟩, hb9⟩; have HB9 := hidden (below_step HB.out hb9); clear hb9)
                        exact bodyPost_ret (results_tmp3 rfl _ _ _) rfl ⟨⟨_, _, rfl⟩, HB9.out⟩
                      | some p =>
                        obtain ⟨ts, m⟩ := p
                        rw [hq9] at hR HPx
                        simp only [Option.map_some] at hR
                        subst hR
                        have HPy : Hid (∀ X, Below w.heap.size w X → Calls Tryz.prog 32 #[.agg #[.int .i64 d, .int .i64 2, .int .i64 bx, .int .i64 by_, .int .i64 bw, .int .i64 bh, .int .i64 0], .string S7, .int .u8 125] X fun e w' => ∃ ya yn yc, e = .returned (.tuple #[.slice ya yn yc, .string (str m), .bool true]) ∧ CeOwns w' w.heap.size (.slice ya yn yc) ((Tree.split ⟨bx, by_, bw, bh⟩ 2 ts).tell d) ∧ Below X.heap.size X w') := fun X hX => by
                          refine (HPx.out X).mono ?_
                          rintro e w' ⟨⟨ya, yn, yc, rfl, ho⟩, hb⟩
                          exact ⟨ya, yn, yc, rfl, ce_lower ho hX.size, hb⟩
                        clear hq9 HPx
                        go_wp2_with (go_at_call 32; refine (HPy.out _ HB.out).mono ?_; rintro e w9 ⟨ya, yn, yc, rfl, ho9, hb9⟩; have HO9 := hidden ho9; have HB9 := hidden (below_step HB.out hb9); clear hb9 ho9)
                        exact bodyPost_ret (results_tmp3 rfl _ _ _) rfl ⟨⟨_, _, _, rfl, HO9.out⟩, HB9.out⟩
                    · rw [if_neg h123] at hR
                      have hn123 : ¬ (c.toNat : Int) = 123 := fun e => h123 (UInt8.toNat_inj.1 (by simpa using (by omega : c.toNat = 123)))
                      by_cases h91 : c = 91
                      · subst h91
                        have hbb : ((91 : UInt8).toNat : Int) = 91 := rfl
                        rw [if_pos rfl] at hR
                        have h8 : CB w ((w7.setCell ⟨w.heap.size, 3, none⟩ (.int .i64 by_)).setCell ⟨w.heap.size, 1, none⟩ (.int .i64 3)) #[.int .i64 d, .int .i64 3, .int .i64 bx, .int .i64 by_, .int .i64 bw, .int .i64 bh, .int .i64 0] := HC7.out.set 1 (.int .i64 3) rfl
                        have z0 := (h8.cell 0).1
                        have z1 := (h8.cell 1).1
                        have z2 := (h8.cell 2).1
                        have z3 := (h8.cell 3).1
                        have z4 := (h8.cell 4).1
                        have z5 := (h8.cell 5).1
                        have z6 := (h8.cell 6).1
                        simp only [List.getElem?_toArray, List.getElem?_cons_succ, List.getElem?_cons_zero] at z0 z1 z2 z3 z4 z5 z6
                        have HB := hidden h8.b
                        have HPx : Hid (∀ X, Calls Tryz.prog 32 #[.agg #[.int .i64 d, .int .i64 3, .int .i64 bx, .int .i64 by_, .int .i64 bw, .int .i64 bh, .int .i64 0], .string S7, .int .u8 93] X (ParPost X ⟨d, 3, bx, by_, bw, bh, 0⟩ (partsF n 93 r))) := fun X => by
                          rw [← HS7.out]
                          exact HP.out 93 91 r ⟨d, 3, bx, by_, bw, bh, 0⟩ X (by decide) (by have := HF0.out; have := HLr.out; omega) hd0 (by have := HD1.out; have := HLr.out; show 8 * (d + 1) + _ ≤ 2048; omega)
                        clear HC7 h8 HP
                        cases hq9 : partsF n 93 r with
                        | none =>
                          rw [hq9] at hR HPx
                          simp only [Option.map_none] at hR
                          subst hR
                          have HPy : Hid (∀ X, Calls Tryz.prog 32 #[.agg #[.int .i64 d, .int .i64 3, .int .i64 bx, .int .i64 by_, .int .i64 bw, .int .i64 bh, .int .i64 0], .string S7, .int .u8 93] X fun e w' => (∃ sl x, e = .returned (.tuple #[sl, .string x, .bool false])) ∧ Below X.heap.size X w') := fun X => HPx.out X
                          clear hq9 HPx
                          go_wp2_with (go_at_call 32; refine (HPy.out _).mono ?_; rintro e w9 ⟨⟨sl, x, rfl⟩, hb9⟩; have HB9 := hidden (below_step HB.out hb9); clear hb9)
                          exact bodyPost_ret (results_tmp3 rfl _ _ _) rfl ⟨⟨_, _, rfl⟩, HB9.out⟩
                        | some p =>
                          obtain ⟨ts, m⟩ := p
                          rw [hq9] at hR HPx
                          simp only [Option.map_some] at hR
                          subst hR
                          have HPy : Hid (∀ X, Below w.heap.size w X → Calls Tryz.prog 32 #[.agg #[.int .i64 d, .int .i64 3, .int .i64 bx, .int .i64 by_, .int .i64 bw, .int .i64 bh, .int .i64 0], .string S7, .int .u8 93] X fun e w' => ∃ ya yn yc, e = .returned (.tuple #[.slice ya yn yc, .string (str m), .bool true]) ∧ CeOwns w' w.heap.size (.slice ya yn yc) ((Tree.split ⟨bx, by_, bw, bh⟩ 3 ts).tell d) ∧ Below X.heap.size X w') := fun X hX => by
                            refine (HPx.out X).mono ?_
                            rintro e w' ⟨⟨ya, yn, yc, rfl, ho⟩, hb⟩
                            exact ⟨ya, yn, yc, rfl, ce_lower ho hX.size, hb⟩
                          clear hq9 HPx
                          go_wp2_with (go_at_call 32; refine (HPy.out _ HB.out).mono ?_; rintro e w9 ⟨ya, yn, yc, rfl, ho9, hb9⟩; have HO9 := hidden ho9; have HB9 := hidden (below_step HB.out hb9); clear hb9 ho9)
                          exact bodyPost_ret (results_tmp3 rfl _ _ _) rfl ⟨⟨_, _, _, rfl, HO9.out⟩, HB9.out⟩
                      · rw [if_neg h91] at hR
                        subst hR
                        have hn91 : ¬ (c.toNat : Int) = 91 := fun e => h91 (UInt8.toNat_inj.1 (by simpa using (by omega : c.toNat = 91)))
                        have HB := hidden HC7.out.b
                        clear HC7 HP
                        go_wp2
                        exact bodyPost_ret (results_tmp3 rfl _ _ _) rfl ⟨⟨_, _, rfl⟩, HB.out⟩
theorem both_ref : ∀ n, CelG n ∧ ParG n := by
  intro n
  induction n using Nat.strongRecOn with
  | _ n ih => exact ⟨cel_any n fun k hk => (ih k hk).2, par_any n fun k hk => (ih k hk).1⟩
end Go.Proofs.YtglncninkocgaabGreatDoor
