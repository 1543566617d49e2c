/-
  Plans: the reader's calls, whatever the text is.
-/
import Derived.Test.YtglncninkocgaabGreatDoorEA
namespace Go.Proofs.YtglncninkocgaabGreatDoor
open Go.RowKit
set_option linter.unusedVariables false
set_option maxRecDepth 20000

def NumPost (w0 : World) (g : Nat) (sl : Value) (acc : List CellV) (G : Nat) (vals : Array Value) : Option (Int × List UInt8) → Ending → World → Prop
  | none, e, w' => e = .panicked [notBody] ∧ Below w0.heap.size w0 w'
  | some p, e, w' => e = .returned (.int .i64 p.1) ∧ RC w0 w' g p.2 sl acc G vals
def ExpPost (w0 : World) (g : Nat) (sl : Value) (acc : List CellV) (G : Nat) (vals : Array Value) : Option (List UInt8) → Ending → World → Prop
  | none, e, w' => e = .panicked [notBody] ∧ Below w0.heap.size w0 w'
  | some r, e, w' => e = .returned (.tuple #[]) ∧ RC w0 w' g r sl acc G vals
def NextPost (w0 : World) (g : Nat) (sl : Value) (acc : List CellV) (G : Nat) (vals : Array Value) : List UInt8 → Ending → World → Prop
  | [], e, w' => e = .panicked [notBody] ∧ Below w0.heap.size w0 w'
  | c :: r, e, w' => e = .returned (.int .u8 c.toNat) ∧ RC w0 w' g r sl acc G vals
theorem number_rc (w0 X : World) (g : Nat) (s : List UInt8) (sl : Value) (acc : List CellV) (G : Nat) (vals : Array Value) (hN : NumV w0) (hl : s.length ≤ 2048) (h : RC w0 X g s sl acc G vals) : Calls Tryz.prog 46 #[.pointer (some ⟨g, 0, none⟩)] X (NumPost w0 g sl acc G vals (numF s)) := by
  cases hq : numF s with
  | none =>
    refine (number_none w0 X g s sl acc hN hq h.rd (by omega)).mono ?_
    rintro e w' ⟨rfl, hb⟩
    exact ⟨rfl, below_step h.rd.b hb⟩
  | some p =>
    obtain ⟨n, r⟩ := p
    obtain ⟨e1, r1, n1⟩ := numF_some hq
    have hl2 : r.length ≤ 2048 := by have := congrArg List.length e1; rw [List.length_append] at this; omega
    rw [e1] at h
    refine (number_ok w0 X g n r sl acc hN r1 n1 h.rd (by omega)).mono ?_
    rintro e w' ⟨rfl, W1, hb1, rfl⟩
    exact ⟨rfl, (h.below hb1).setR⟩
theorem expect_rc (w0 X : World) (g : Nat) (s : List UInt8) (c : UInt8) (sl : Value) (acc : List CellV) (G : Nat) (vals : Array Value) (hl : s.length ≤ 2048) (h : RC w0 X g s sl acc G vals) : Calls Tryz.prog 47 #[.pointer (some ⟨g, 0, none⟩), .int .u8 c.toNat] X (ExpPost w0 g sl acc G vals (expF c s)) := by
  cases s with
  | nil =>
    refine (expect_none w0 X g c sl acc h.rd).mono ?_
    rintro e w' ⟨rfl, rfl⟩
    exact ⟨rfl, h.rd.b⟩
  | cons b r =>
    have hl2 : r.length ≤ 2048 := by simp at hl; omega
    by_cases hb : b = c
    · subst hb
      rw [show expF b (b :: r) = some r from if_pos rfl]
      refine (expect_ok w0 X g b r sl acc h.rd (by omega)).mono ?_
      rintro e w' ⟨rfl, rfl⟩
      exact ⟨rfl, h.setR⟩
    · rw [show expF c (b :: r) = none from if_neg hb]
      refine (expect_other w0 X g b c r sl acc h.rd (by omega) hb).mono ?_
      rintro e w' ⟨rfl, rfl⟩
      exact ⟨rfl, (h.rd.set (m := r)).b⟩
theorem next_rc (w0 X : World) (g : Nat) (s : List UInt8) (sl : Value) (acc : List CellV) (G : Nat) (vals : Array Value) (hl : s.length ≤ 2048) (h : RC w0 X g s sl acc G vals) : Calls Tryz.prog 48 #[.pointer (some ⟨g, 0, none⟩)] X (NextPost w0 g sl acc G vals s) := by
  cases s with
  | nil =>
    refine (next_none w0 X g sl acc h.rd).mono ?_
    rintro e w' ⟨rfl, rfl⟩
    exact ⟨rfl, h.rd.b⟩
  | cons c r =>
    refine (next_ok w0 X g c r sl acc h.rd (by simp at hl; omega)).mono ?_
    rintro e w' ⟨rfl, rfl⟩
    exact ⟨rfl, h.setR⟩

set_option maxHeartbeats 8000000 in
theorem cell_fail (w0 : World) (hN : NumV w0) (n : Nat) (s : List UInt8) (W : World) (g : Nat) (sl : Value) (acc : List CellV) (d : Int) (hd0 : 0 ≤ d) (hd1 : d ≤ 999) (hl : s.length ≤ 2048) (ha : acc.length ≤ 1000) (hno : cellF (n + 1) s = none)
    (hP : ∀ (r : List UInt8) (k : CellV) (X : World) (s1 : Value), r.length + 8 ≤ s.length → RdAt w0 X g r s1 (acc ++ [k]) → (partsF n 125 r = none → Calls Tryz.prog 49 #[.pointer (some ⟨g, 0, none⟩), .int .i64 (d + 1), .int .u8 125] X fun e w' => e = .panicked [notBody] ∧ Below w0.heap.size w0 w') ∧ (partsF n 93 r = none → Calls Tryz.prog 49 #[.pointer (some ⟨g, 0, none⟩), .int .i64 (d + 1), .int .u8 93] X fun e w' => e = .panicked [notBody] ∧ Below w0.heap.size w0 w'))
    (hR : RdAt w0 W g s sl acc) : Calls Tryz.prog 35 #[.pointer (some ⟨g, 0, none⟩), .int .i64 d] W fun e w' => e = .panicked [notBody] ∧ Below w0.heap.size w0 w' := by
  have HP := hidden hP
  have HNo := hidden hno
  have HNum : Hid (∀ X G vals s, s.length ≤ 2048 → RC w0 X g s sl acc G vals → Calls Tryz.prog 46 #[.pointer (some ⟨g, 0, none⟩)] X (NumPost w0 g sl acc G vals (numF s))) := fun X G vals s hs hX => number_rc w0 X g s sl acc G vals hN hs hX
  have HExp : Hid (∀ c X G vals s, s.length ≤ 2048 → RC w0 X g s sl acc G vals → Calls Tryz.prog 47 #[.pointer (some ⟨g, 0, none⟩), .int .u8 (c : UInt8).toNat] X (ExpPost w0 g sl acc G vals (expF c s))) := fun c X G vals s hs hX => expect_rc w0 X g s c sl acc G vals hs hX
  have HNext : Hid (∀ X G vals s, s.length ≤ 2048 → RC w0 X g s sl acc G vals → Calls Tryz.prog 48 #[.pointer (some ⟨g, 0, none⟩)] X (NextPost w0 g sl acc G vals s)) := fun X G vals s hs hX => next_rc w0 X g s sl acc G vals hs hX
  have HGu : Hid (∀ X, Calls Tryz.prog 36 #[] X fun e w' => e = .panicked [notBody] ∧ X = w') := giveUp_any
  have H0 : Hid (RC w0 (W.alloc (.cells #[.int .i64 d, .int .i64 0, .int .i64 0, .int .i64 0, .int .i64 0, .int .i64 0, .int .i64 0] 36)) g s sl acc W.heap.size #[.int .i64 d, .int .i64 0, .int .i64 0, .int .i64 0, .int .i64 0, .int .i64 0, .int .i64 0]) := hR.withC _
  obtain ⟨G, hG⟩ : ∃ G, W.heap.size = G := ⟨_, rfl⟩
  rw [hG] at H0
  have HL0 := hidden hl
  clear hR hN hP hno hl
  go_enter Tryz.func35, Tryz.ntmps35
  go_wp2_with fail
  have c1 := HNum.out _ _ _ s HL0.out H0.out
  cases hq1 : numF s with
  | none =>
    rw [hq1] at c1
    refine c1.mono ?_
    rintro e w1 ⟨rfl, hb⟩
    exact ⟨rfl, rfl, hb⟩
  | some p =>
    rw [hq1] at c1
    obtain ⟨bw, s1⟩ := p
    have HQ1 := hidden hq1
    have HL1 : Hid (s1.length + 1 ≤ s.length) := by
      show _ ≤ _
      obtain ⟨e1, r1, _⟩ := numF_some hq1
      have h1 := congrArg List.length e1
      have h2 := num_len r1
      rw [List.length_append] at h1
      omega
    have HM1 : Hid (s1.length ≤ 2048) := by show _ ≤ _; have := HL1.out; have := HL0.out; omega
    refine c1.mono ?_
    rintro e w1 ⟨rfl, h1⟩
    clear c1 hq1 H0
    have H1 := hidden h1
    have y1 := (h1.cell 4).1
    have f1 := (h1.cell 4).2
    simp only [List.getElem?_toArray, List.getElem?_cons_succ, List.getElem?_cons_zero] at y1
    clear h1
    have H1s : Hid (RC w0 (w1.setCell ⟨G, 4, none⟩ (.int .i64 bw)) g s1 sl acc G #[.int .i64 d, .int .i64 0, .int .i64 0, .int .i64 0, .int .i64 bw, .int .i64 0, .int .i64 0]) := H1.out.setC 4 (.int .i64 bw) rfl
    clear H1
    go_wp2_with fail
    have c2 := HExp.out 120 _ _ _ s1 HM1.out H1s.out
    cases hq2 : expF 120 s1 with
    | none =>
      rw [hq2] at c2
      refine c2.mono ?_
      rintro e w1 ⟨rfl, hb⟩
      exact ⟨rfl, rfl, hb⟩
    | some s2 =>
      rw [hq2] at c2
      have HQ2 := hidden hq2
      have HL2 : Hid (s2.length + 1 ≤ s1.length) := by
        show _ ≤ _
        have h1 := congrArg List.length (expF_some hq2)
        simp at h1
        omega
      have HM2 : Hid (s2.length ≤ 2048) := by show _ ≤ _; have := HL2.out; have := HM1.out; omega
      refine c2.mono ?_
      rintro e w2 ⟨rfl, h2⟩
      clear c2 hq2 H1s
      have H2 := hidden h2
      clear h2
      go_wp2_with fail
      have c3 := HNum.out _ _ _ s2 HM2.out H2.out
      cases hq3 : numF s2 with
      | none =>
        rw [hq3] at c3
        refine c3.mono ?_
        rintro e w1 ⟨rfl, hb⟩
        exact ⟨rfl, rfl, hb⟩
      | some p =>
        rw [hq3] at c3
        obtain ⟨bh, s3⟩ := p
        have HQ3 := hidden hq3
        have HL3 : Hid (s3.length + 1 ≤ s2.length) := by
          show _ ≤ _
          obtain ⟨e1, r1, _⟩ := numF_some hq3
          have h1 := congrArg List.length e1
          have h2 := num_len r1
          rw [List.length_append] at h1
          omega
        have HM3 : Hid (s3.length ≤ 2048) := by show _ ≤ _; have := HL3.out; have := HM2.out; omega
        refine c3.mono ?_
        rintro e w3 ⟨rfl, h3⟩
        clear c3 hq3 H2
        have H3 := hidden h3
        have y3 := (h3.cell 5).1
        have f3 := (h3.cell 5).2
        simp only [List.getElem?_toArray, List.getElem?_cons_succ, List.getElem?_cons_zero] at y3
        clear h3
        have H3s : Hid (RC w0 (w3.setCell ⟨G, 5, none⟩ (.int .i64 bh)) g s3 sl acc G #[.int .i64 d, .int .i64 0, .int .i64 0, .int .i64 0, .int .i64 bw, .int .i64 bh, .int .i64 0]) := H3.out.setC 5 (.int .i64 bh) rfl
        clear H3
        go_wp2_with fail
        have c4 := HExp.out 44 _ _ _ s3 HM3.out H3s.out
        cases hq4 : expF 44 s3 with
        | none =>
          rw [hq4] at c4
          refine c4.mono ?_
          rintro e w1 ⟨rfl, hb⟩
          exact ⟨rfl, rfl, hb⟩
        | some s4 =>
          rw [hq4] at c4
          have HQ4 := hidden hq4
          have HL4 : Hid (s4.length + 1 ≤ s3.length) := by
            show _ ≤ _
            have h1 := congrArg List.length (expF_some hq4)
            simp at h1
            omega
          have HM4 : Hid (s4.length ≤ 2048) := by show _ ≤ _; have := HL4.out; have := HM3.out; omega
          refine c4.mono ?_
          rintro e w4 ⟨rfl, h4⟩
          clear c4 hq4 H3s
          have H4 := hidden h4
          clear h4
          go_wp2_with fail
          have c5 := HNum.out _ _ _ s4 HM4.out H4.out
          cases hq5 : numF s4 with
          | none =>
            rw [hq5] at c5
            refine c5.mono ?_
            rintro e w1 ⟨rfl, hb⟩
            exact ⟨rfl, rfl, hb⟩
          | some p =>
            rw [hq5] at c5
            obtain ⟨bx, s5⟩ := p
            have HQ5 := hidden hq5
            have HL5 : Hid (s5.length + 1 ≤ s4.length) := by
              show _ ≤ _
              obtain ⟨e1, r1, _⟩ := numF_some hq5
              have h1 := congrArg List.length e1
              have h2 := num_len r1
              rw [List.length_append] at h1
              omega
            have HM5 : Hid (s5.length ≤ 2048) := by show _ ≤ _; have := HL5.out; have := HM4.out; omega
            refine c5.mono ?_
            rintro e w5 ⟨rfl, h5⟩
            clear c5 hq5 H4
            have H5 := hidden h5
            have y5 := (h5.cell 2).1
            have f5 := (h5.cell 2).2
            simp only [List.getElem?_toArray, List.getElem?_cons_succ, List.getElem?_cons_zero] at y5
            clear h5
            have H5s : Hid (RC w0 (w5.setCell ⟨G, 2, none⟩ (.int .i64 bx)) g s5 sl acc G #[.int .i64 d, .int .i64 0, .int .i64 bx, .int .i64 0, .int .i64 bw, .int .i64 bh, .int .i64 0]) := H5.out.setC 2 (.int .i64 bx) rfl
            clear H5
            go_wp2_with fail
            have c6 := HExp.out 44 _ _ _ s5 HM5.out H5s.out
            cases hq6 : expF 44 s5 with
            | none =>
              rw [hq6] at c6
              refine c6.mono ?_
              rintro e w1 ⟨rfl, hb⟩
              exact ⟨rfl, rfl, hb⟩
            | some s6 =>
              rw [hq6] at c6
              have HQ6 := hidden hq6
              have HL6 : Hid (s6.length + 1 ≤ s5.length) := by
                show _ ≤ _
                have h1 := congrArg List.length (expF_some hq6)
                simp at h1
                omega
              have HM6 : Hid (s6.length ≤ 2048) := by show _ ≤ _; have := HL6.out; have := HM5.out; omega
              refine c6.mono ?_
              rintro e w6 ⟨rfl, h6⟩
              clear c6 hq6 H5s
              have H6 := hidden h6
              clear h6
              go_wp2_with fail
              have c7 := HNum.out _ _ _ s6 HM6.out H6.out
              cases hq7 : numF s6 with
              | none =>
                rw [hq7] at c7
                refine c7.mono ?_
                rintro e w1 ⟨rfl, hb⟩
                exact ⟨rfl, rfl, hb⟩
              | some p =>
                rw [hq7] at c7
                obtain ⟨by_, s7⟩ := p
                have HQ7 := hidden hq7
                have HL7 : Hid (s7.length + 1 ≤ s6.length) := by
                  show _ ≤ _
                  obtain ⟨e1, r1, _⟩ := numF_some hq7
                  have h1 := congrArg List.length e1
                  have h2 := num_len r1
                  rw [List.length_append] at h1
                  omega
                have HM7 : Hid (s7.length ≤ 2048) := by show _ ≤ _; have := HL7.out; have := HM6.out; omega
                refine c7.mono ?_
                rintro e w7 ⟨rfl, h7⟩
                clear c7 hq7 H6
                have H7 := hidden h7
                have y7 := (h7.cell 3).1
                have f7 := (h7.cell 3).2
                simp only [List.getElem?_toArray, List.getElem?_cons_succ, List.getElem?_cons_zero] at y7
                clear h7
                have H7s : Hid (RC w0 (w7.setCell ⟨G, 3, none⟩ (.int .i64 by_)) g s7 sl acc G #[.int .i64 d, .int .i64 0, .int .i64 bx, .int .i64 by_, .int .i64 bw, .int .i64 bh, .int .i64 0]) := H7.out.setC 3 (.int .i64 by_) rfl
                clear H7
                have HBx : Hid (boxF s = some ((⟨bx, by_, bw, bh⟩ : Box), s7)) := by
                  show _ = _
                  unfold boxF
                  rw [HQ1.out]
                  simp only [Option.bind_some]
                  rw [HQ2.out]
                  simp only [Option.bind_some]
                  rw [HQ3.out]
                  simp only [Option.bind_some]
                  rw [HQ4.out]
                  simp only [Option.bind_some]
                  rw [HQ5.out]
                  simp only [Option.bind_some]
                  rw [HQ6.out]
                  simp only [Option.bind_some]
                  rw [HQ7.out]
                  rfl
                have HLs : Hid (s7.length + 7 ≤ s.length) := by show _ ≤ _; have := HL1.out; have := HL2.out; have := HL3.out; have := HL4.out; have := HL5.out; have := HL6.out; have := HL7.out; omega
                clear HQ1 HQ2 HQ3 HQ4 HQ5 HQ6 HQ7 HL1 HL2 HL3 HL4 HL5 HL6 HL7 HM1 HM2 HM3 HM4 HM5 HM6
                go_wp2_with fail
                have c8 := HNext.out _ _ _ s7 HM7.out H7s.out
                cases s7 with
                | nil =>
                  refine c8.mono ?_
                  rintro e w1 ⟨rfl, hb⟩
                  exact ⟨rfl, rfl, hb⟩
                | cons c r =>
                  refine c8.mono ?_
                  rintro e w8 ⟨rfl, h8⟩
                  have H8 := hidden h8
                  clear h8 c8 H7s
                  have HMr : Hid (r.length ≤ 2048) := by show _ ≤ _; have := HM7.out; simp at this; omega
                  have HLr : Hid (r.length + 8 ≤ s.length) := by show _ ≤ _; have := HLs.out; simp at this; omega
                  have hno := HNo.out
                  unfold cellF at hno
                  rw [HBx.out] at hno
                  simp only [] at hno
                  clear HNo HBx HM7 HLs
                  by_cases h44 : c = 44
                  · subst h44
                    have hb44 : ((44 : UInt8).toNat : Int) = 44 := rfl
                    rw [if_pos rfl] at hno
                    have hq9 : numF r = none := by cases hh : numF r with | none => rfl | some p => rw [hh] at hno; cases hno
                    have c9 := HNum.out _ _ _ r HMr.out H8.out
                    rw [hq9] at c9
                    have C9 := hidden c9
                    clear c9 hno hq9
                    go_wp2_with fail
                    refine C9.out.mono ?_
                    rintro e w1 ⟨rfl, hb⟩
                    exact ⟨rfl, rfl, hb⟩
                  · rw [if_neg h44] at hno
                    have hn44 : ¬ (c.toNat : Int) = 44 := fun e => h44 (UInt8.toNat_inj.1 (by simpa using (by omega : c.toNat = 44)))
                    by_cases h123 : c = 123
                    · subst h123
                      have hbb : ((123 : UInt8).toNat : Int) = 123 := rfl
                      rw [if_pos rfl] at hno
                      have hq9 : partsF n 125 r = none := by cases hh : partsF n 125 r with | none => rfl | some p => rw [hh] at hno; cases hno
                      have HPx : Hid (∀ X s1, RdAt w0 X g r s1 (acc ++ [⟨d, 2, bx, by_, bw, bh, 0⟩]) → Calls Tryz.prog 49 #[.pointer (some ⟨g, 0, none⟩), .int .i64 (d + 1), .int .u8 125] X fun e w' => e = .panicked [notBody] ∧ Below w0.heap.size w0 w') := fun X s1 hX => (HP.out r _ X s1 HLr.out hX).1 hq9
                      have a1 := (H8.out.cell 1).1
                      have a2 := (H8.out.cell 1).2
                      simp only [List.getElem?_toArray, List.getElem?_cons_succ, List.getElem?_cons_zero] at a1
                      have H10 : Hid (RC w0 (w8.setCell ⟨G, 1, none⟩ (.int .i64 2)) g r sl acc G #[.int .i64 d, .int .i64 2, .int .i64 bx, .int .i64 by_, .int .i64 bw, .int .i64 bh, .int .i64 0]) := H8.out.setC 1 (.int .i64 2) rfl
                      clear H8 hno hq9 HP
                      have z0 : (w8.setCell ⟨G, 1, none⟩ (.int .i64 2)).drew.cell? ⟨G, 0, none⟩ = some (.int .i64 d) := (H10.out.cell 0).1
                      have z1 : (w8.setCell ⟨G, 1, none⟩ (.int .i64 2)).drew.cell? ⟨G, 1, none⟩ = some (.int .i64 2) := (H10.out.cell 1).1
                      have z2 : (w8.setCell ⟨G, 1, none⟩ (.int .i64 2)).drew.cell? ⟨G, 2, none⟩ = some (.int .i64 bx) := (H10.out.cell 2).1
                      have z3 : (w8.setCell ⟨G, 1, none⟩ (.int .i64 2)).drew.cell? ⟨G, 3, none⟩ = some (.int .i64 by_) := (H10.out.cell 3).1
                      have z4 : (w8.setCell ⟨G, 1, none⟩ (.int .i64 2)).drew.cell? ⟨G, 4, none⟩ = some (.int .i64 bw) := (H10.out.cell 4).1
                      have z5 : (w8.setCell ⟨G, 1, none⟩ (.int .i64 2)).drew.cell? ⟨G, 5, none⟩ = some (.int .i64 bh) := (H10.out.cell 5).1
                      have z6 : (w8.setCell ⟨G, 1, none⟩ (.int .i64 2)).drew.cell? ⟨G, 6, none⟩ = some (.int .i64 0) := (H10.out.cell 6).1
                      have zg : (w8.setCell ⟨G, 1, none⟩ (.int .i64 2)).drew.cell? ⟨g, 1, none⟩ = some sl := H10.out.rd.cells.2.1
                      have zg2 : ((w8.setCell ⟨G, 1, none⟩ (.int .i64 2)).alloc (.cells #[.int .i64 d, .int .i64 2, .int .i64 bx, .int .i64 by_, .int .i64 bw, .int .i64 bh, .int .i64 0] 36)).drew.cell? ⟨g, 1, none⟩ = some sl := ((H10.out.rd.below ((Below.refl _ _).alloc (Nat.le_refl _) _)).below (Below.refl _ _).drew).cells.2.1
                      have hgs : g + 1 ≤ (w8.setCell ⟨G, 1, none⟩ (.int .i64 2)).drew.heap.size := H10.out.rd.lt
                      have HOw : Hid (CeOwns (w8.setCell ⟨G, 1, none⟩ (.int .i64 2)).drew (g + 1) sl acc) := (H10.out.rd.below (Below.refl _ _).drew).own
                      obtain ⟨sa, sn, sc, hsl⟩ := ce_slice HOw.out
                      subst hsl
                      go_wp2_with fail
                      go_region_law (refine step_append_ce (w8.setCell ⟨G, 1, none⟩ (.int .i64 2)).drew rfl (.tmp 51) (.tmp 53) rfl (g + 1) (.slice sa sn sc) acc ⟨d, 2, bx, by_, bw, bh, 0⟩ (by simp [Act.eval]) HOw.out (by simp [Act.eval]) (by omega) hgs ?_; intro v9 x9 k1 k2; obtain ⟨va, vn, vc, rfl⟩ := ce_slice k1; have k3 := H10.out.app k1 k2; have y1 := k3.1.1; have y2 := k3.1.2; have HF := hidden k3.2; clear k1 k2 k3)
                      all_goals (
                        go_wp2_with (go_at_call 49; refine (HPx.out _ _ HF.out).mono ?_; rintro e w11 ⟨rfl, hb11⟩)
                        exact ⟨rfl, rfl, hb11⟩)
                    · rw [if_neg h123] at hno
                      have hn123 : ¬ (c.toNat : Int) = 123 := fun e => h123 (UInt8.toNat_inj.1 (by simpa using (by omega : c.toNat = 123)))
                      by_cases h91 : c = 91
                      · subst h91
                        have hbb : ((91 : UInt8).toNat : Int) = 91 := rfl
                        rw [if_pos rfl] at hno
                        have hq9 : partsF n 93 r = none := by cases hh : partsF n 93 r with | none => rfl | some p => rw [hh] at hno; cases hno
                        have HPx : Hid (∀ X s1, RdAt w0 X g r s1 (acc ++ [⟨d, 3, bx, by_, bw, bh, 0⟩]) → Calls Tryz.prog 49 #[.pointer (some ⟨g, 0, none⟩), .int .i64 (d + 1), .int .u8 93] X fun e w' => e = .panicked [notBody] ∧ Below w0.heap.size w0 w') := fun X s1 hX => (HP.out r _ X s1 HLr.out hX).2 hq9
                        have a1 := (H8.out.cell 1).1
                        have a2 := (H8.out.cell 1).2
                        simp only [List.getElem?_toArray, List.getElem?_cons_succ, List.getElem?_cons_zero] at a1
                        have H10 : Hid (RC w0 (w8.setCell ⟨G, 1, none⟩ (.int .i64 3)) g r sl acc G #[.int .i64 d, .int .i64 3, .int .i64 bx, .int .i64 by_, .int .i64 bw, .int .i64 bh, .int .i64 0]) := H8.out.setC 1 (.int .i64 3) rfl
                        clear H8 hno hq9 HP
                        have z0 : (w8.setCell ⟨G, 1, none⟩ (.int .i64 3)).drew.cell? ⟨G, 0, none⟩ = some (.int .i64 d) := (H10.out.cell 0).1
                        have z1 : (w8.setCell ⟨G, 1, none⟩ (.int .i64 3)).drew.cell? ⟨G, 1, none⟩ = some (.int .i64 3) := (H10.out.cell 1).1
                        have z2 : (w8.setCell ⟨G, 1, none⟩ (.int .i64 3)).drew.cell? ⟨G, 2, none⟩ = some (.int .i64 bx) := (H10.out.cell 2).1
                        have z3 : (w8.setCell ⟨G, 1, none⟩ (.int .i64 3)).drew.cell? ⟨G, 3, none⟩ = some (.int .i64 by_) := (H10.out.cell 3).1
                        have z4 : (w8.setCell ⟨G, 1, none⟩ (.int .i64 3)).drew.cell? ⟨G, 4, none⟩ = some (.int .i64 bw) := (H10.out.cell 4).1
                        have z5 : (w8.setCell ⟨G, 1, none⟩ (.int .i64 3)).drew.cell? ⟨G, 5, none⟩ = some (.int .i64 bh) := (H10.out.cell 5).1
                        have z6 : (w8.setCell ⟨G, 1, none⟩ (.int .i64 3)).drew.cell? ⟨G, 6, none⟩ = some (.int .i64 0) := (H10.out.cell 6).1
                        have zg : (w8.setCell ⟨G, 1, none⟩ (.int .i64 3)).drew.cell? ⟨g, 1, none⟩ = some sl := H10.out.rd.cells.2.1
                        have zg2 : ((w8.setCell ⟨G, 1, none⟩ (.int .i64 3)).alloc (.cells #[.int .i64 d, .int .i64 3, .int .i64 bx, .int .i64 by_, .int .i64 bw, .int .i64 bh, .int .i64 0] 36)).drew.cell? ⟨g, 1, none⟩ = some sl := ((H10.out.rd.below ((Below.refl _ _).alloc (Nat.le_refl _) _)).below (Below.refl _ _).drew).cells.2.1
                        have hgs : g + 1 ≤ (w8.setCell ⟨G, 1, none⟩ (.int .i64 3)).drew.heap.size := H10.out.rd.lt
                        have HOw : Hid (CeOwns (w8.setCell ⟨G, 1, none⟩ (.int .i64 3)).drew (g + 1) sl acc) := (H10.out.rd.below (Below.refl _ _).drew).own
                        obtain ⟨sa, sn, sc, hsl⟩ := ce_slice HOw.out
                        subst hsl
                        go_wp2_with fail
                        go_region_law (refine step_append_ce (w8.setCell ⟨G, 1, none⟩ (.int .i64 3)).drew rfl (.tmp 68) (.tmp 70) rfl (g + 1) (.slice sa sn sc) acc ⟨d, 3, bx, by_, bw, bh, 0⟩ (by simp [Act.eval]) HOw.out (by simp [Act.eval]) (by omega) hgs ?_; intro v9 x9 k1 k2; obtain ⟨va, vn, vc, rfl⟩ := ce_slice k1; have k3 := H10.out.app k1 k2; have y1 := k3.1.1; have y2 := k3.1.2; have HF := hidden k3.2; clear k1 k2 k3)
                        all_goals (
                          go_wp2_with (go_at_call 49; refine (HPx.out _ _ HF.out).mono ?_; rintro e w11 ⟨rfl, hb11⟩)
                          exact ⟨rfl, rfl, hb11⟩)
                      · have hn91 : ¬ (c.toNat : Int) = 91 := fun e => h91 (UInt8.toNat_inj.1 (by simpa using (by omega : c.toNat = 91)))
                        have HBe := hidden H8.out.rd.b
                        clear hno H8 HP
                        go_wp2_with (go_at_call 36; refine (HGu.out _).mono ?_; rintro e w2 ⟨rfl, rfl⟩)
                        exact ⟨rfl, rfl, HBe.out⟩
end Go.Proofs.YtglncninkocgaabGreatDoor
