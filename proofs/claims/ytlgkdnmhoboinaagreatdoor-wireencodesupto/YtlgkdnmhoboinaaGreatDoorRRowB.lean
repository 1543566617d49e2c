/-
  The document's row: the things of a row, one behind the other.
-/
import Derived.Test.YtlgkdnmhoboinaaGreatDoorRRow
import Derived.LoopTactic
namespace Go.Proofs.YtlgkdnmhoboinaaGreatDoor
open Go.RowKit
set_option linter.unusedVariables false
set_option maxRecDepth 20000

theorem str_three (a b c : List UInt8) (E : ByteArray) (h : E = str c) : str (a ++ b) ++ (⟨#[32]⟩ : ByteArray) ++ E = str (a ++ (b ++ 32 :: c)) := by
  subst h
  rw [show (⟨#[32]⟩ : ByteArray) = str [32] from rfl, str_cat, str_cat]
  simp

set_option maxHeartbeats 2000000 in
theorem row_loop (k : Int) (WD S : ByteArray) (ev : Ev) (w : World) (HKp : Hid (∀ W, Calls Tryz.prog 48 #[.agg #[.int .i64 ev.kind, .int .i64 ev.session, .int .i64 ev.window, .int .i64 ev.pane, .int .i64 ev.index, .int .i64 ev.offset, .int .i64 ev.tick, .int .i64 ev.number, .int .i64 ev.flag, .string ev.name, .string ev.text, .string ev.layout, .string ev.visible, .bool ev.zoom], .string S] W fun e w' => e = .returned (.agg #[.int .i64 ev.kind, .int .i64 ev.session, .int .i64 ev.window, .int .i64 ev.pane, .int .i64 ev.index, .int .i64 ev.offset, .int .i64 ev.tick, .int .i64 ev.number, .int .i64 ev.flag, .string ev.name, .string ev.text, .string ev.layout, .string ev.visible, .bool ev.zoom]) ∧ Below W.heap.size W w')) (hEq : ∀ W : World, (Op.equalIn 10000 28 (.agg #[.int .i64 ev.kind, .int .i64 ev.session, .int .i64 ev.window, .int .i64 ev.pane, .int .i64 ev.index, .int .i64 ev.offset, .int .i64 ev.tick, .int .i64 ev.number, .int .i64 ev.flag, .string ev.name, .string ev.text, .string ev.layout, .string ev.visible, .bool ev.zoom]) (.agg #[.int .i64 ev.kind, .int .i64 ev.session, .int .i64 ev.window, .int .i64 ev.pane, .int .i64 ev.index, .int .i64 ev.offset, .int .i64 ev.tick, .int .i64 ev.number, .int .i64 ev.flag, .string ev.name, .string ev.text, .string ev.layout, .string ev.visible, .bool ev.zoom])).run Tryz.prog W = .ok true W) (hcond : (S.toList == [120]) = false ∨ (S.toList = [120] ∧ ¬ ev.text.toList = [] ∧ ev.text.toList.isEmpty = false))
    (cs : List Ch) (m : Nat) (hm : m ≤ 6) (HM : Hid (cs.length = m)) (hSz : S.size = m) (HI : Hid (∀ (i : Nat) (c : Ch), cs[i]? = some c → ∀ W : World, (Instr.index 9 (.string S) (.int .i64 (i : Int))).run Tryz.prog W = .ok (.int .u8 (c.byte.toNat : Int)) W))
    (HPt : Hid (∀ (c : Ch), c ∈ cs → ∀ W, Calls Tryz.prog 49 #[.agg #[.int .i64 ev.kind, .int .i64 ev.session, .int .i64 ev.window, .int .i64 ev.pane, .int .i64 ev.index, .int .i64 ev.offset, .int .i64 ev.tick, .int .i64 ev.number, .int .i64 ev.flag, .string ev.name, .string ev.text, .string ev.layout, .string ev.visible, .bool ev.zoom], .int .u8 (c.byte.toNat : Int)] W (PartPost (c.T ev) W)))
    (HTl : Hid (∀ (c : Ch) (t : List UInt8), c.T ev = some t → t.length ≤ 8388640))
    (word : List UInt8) (HW : Hid (str word = WD)) (hwl : WD.size ≤ 30) (o : Option (List UInt8)) (HO1 : Hid (∀ acc, putsC cs ev = some acc → o = some (word ++ acc))) (HO2 : Hid (putsC cs ev = none → o = none)) :
    Calls Tryz.prog 31 #[.agg ev.vals, .agg #[.int .i64 k, .string WD, .string S]] w (EncPost o w) := by
  have HR0 : Hid (RowSt w ((w.alloc (.cells ev.vals 28)).alloc (.cells #[.int .i64 k, .string WD, .string S] 64)) ev WD S) := RowSt.start w ev k WD S
  unfold Ev.vals at HR0 ⊢
  rcases hcond with hS | ⟨hS, hT1, hT2⟩
  all_goals
    go_enter Tryz.func31, Tryz.ntmps31
    go_wp2_with fail
    go_region_held3 (fun W' => W'.cell? ⟨w.heap.size, 0, none⟩ = some (.int .i64 ev.kind) ∧ W'.cell? ⟨w.heap.size, 1, none⟩ = some (.int .i64 ev.session) ∧ W'.cell? ⟨w.heap.size, 2, none⟩ = some (.int .i64 ev.window) ∧ W'.cell? ⟨w.heap.size, 3, none⟩ = some (.int .i64 ev.pane) ∧ W'.cell? ⟨w.heap.size, 4, none⟩ = some (.int .i64 ev.index) ∧ W'.cell? ⟨w.heap.size, 5, none⟩ = some (.int .i64 ev.offset) ∧ W'.cell? ⟨w.heap.size, 6, none⟩ = some (.int .i64 ev.tick) ∧ W'.cell? ⟨w.heap.size, 7, none⟩ = some (.int .i64 ev.number) ∧ W'.cell? ⟨w.heap.size, 8, none⟩ = some (.int .i64 ev.flag) ∧ W'.cell? ⟨w.heap.size, 9, none⟩ = some (.string ev.name) ∧ W'.cell? ⟨w.heap.size, 10, none⟩ = some (.string ev.text) ∧ W'.cell? ⟨w.heap.size, 11, none⟩ = some (.string ev.layout) ∧ W'.cell? ⟨w.heap.size, 12, none⟩ = some (.string ev.visible) ∧ W'.cell? ⟨w.heap.size, 13, none⟩ = some (.bool ev.zoom) ∧ W'.cell? ⟨w.heap.size + 1, 2, none⟩ = some (.string S)) (go_keep) ((go_at_call 48; refine (HKp.out _).mono ?_; rintro e w1 ⟨rfl, hb1⟩; have HR1 : Hid (RowSt w w1 ev WD S) := HR0.out.drew.below hb1; obtain ⟨p0, p1, p2, p3, p4, p5, p6, p7, p8, p9, p10, p11, p12, p13⟩ := HR1.out.e.cells; have p14 := HR1.out.c2; clear hb1))
    have p15 := HR1.out.c1
    go_wp2
    go_loopw [6, 7] (fun s i wr => ∃ (n : Nat) (acc : List UInt8), n ≤ m ∧ i = .int .i64 n ∧ s = .string (str (word ++ acc)) ∧ acc.length ≤ n * 8388641 ∧ Hid (putsC cs ev = (putsC (cs.drop n) ev).map (acc ++ ·)) ∧ RowSt w wr ev WD S) (fun _ i _ => m - (intOf i).toNat)
    case atStart => exact ⟨0, [], Nat.zero_le _, rfl, by rw [List.append_nil, HW.out], Nat.zero_le _, (show putsC cs ev = (putsC cs ev).map ([] ++ ·) by simp), HR1.out⟩
    case round =>
      obtain ⟨n, acc, hn, rfl, rfl, hal, HP, hrs⟩ := hrel
      have HRS : Hid (RowSt w wr ev WD S) := hrs
      clear hrs HR1 p0 p1 p2 p3 p4 p5 p6 p7 p8 p9 p10 p11 p12 p13 p14 p15
      obtain ⟨q0, q1, q2, q3, q4, q5, q6, q7, q8, q9, q10, q11, q12, q13⟩ := HRS.out.e.cells
      have q14 := HRS.out.c2
      by_cases hlt : n < m
      · obtain ⟨c, hc⟩ : ∃ c, cs[n]? = some c := ⟨_, List.getElem?_eq_getElem (by rw [HM.out]; exact hlt)⟩
        have HX := HI.out n c hc
        have HC : Hid (cs[n]? = some c) := hc
        have HPc := HPt.out c (List.mem_of_getElem? hc)
        have HPc' : Hid (∀ W, Calls Tryz.prog 49 #[.agg #[.int .i64 ev.kind, .int .i64 ev.session, .int .i64 ev.window, .int .i64 ev.pane, .int .i64 ev.index, .int .i64 ev.offset, .int .i64 ev.tick, .int .i64 ev.number, .int .i64 ev.flag, .string ev.name, .string ev.text, .string ev.layout, .string ev.visible, .bool ev.zoom], .int .u8 (c.byte.toNat : Int)] W (PartPost (c.T ev) W)) := HPc
        clear hc HPc HI HPt
        cases hT : c.T ev with
        | none =>
          have HPd : Hid (∀ W, Calls Tryz.prog 49 #[.agg #[.int .i64 ev.kind, .int .i64 ev.session, .int .i64 ev.window, .int .i64 ev.pane, .int .i64 ev.index, .int .i64 ev.offset, .int .i64 ev.tick, .int .i64 ev.number, .int .i64 ev.flag, .string ev.name, .string ev.text, .string ev.layout, .string ev.visible, .bool ev.zoom], .int .u8 (c.byte.toNat : Int)] W fun e w' => (∃ s, e = .returned (.tuple #[.string s, .bool false])) ∧ Below W.heap.size W w') := fun W => by
            have := HPc'.out W
            rw [hT] at this
            exact this
          have HN : Hid (o = none) := HO2.out (putsC_stop HC.out hT HP.out)
          clear hT HPc'
          go_wp2_with fail
          go_region_held3 (fun W' => W'.cell? ⟨w.heap.size, 0, none⟩ = some (.int .i64 ev.kind) ∧ W'.cell? ⟨w.heap.size, 1, none⟩ = some (.int .i64 ev.session) ∧ W'.cell? ⟨w.heap.size, 2, none⟩ = some (.int .i64 ev.window) ∧ W'.cell? ⟨w.heap.size, 3, none⟩ = some (.int .i64 ev.pane) ∧ W'.cell? ⟨w.heap.size, 4, none⟩ = some (.int .i64 ev.index) ∧ W'.cell? ⟨w.heap.size, 5, none⟩ = some (.int .i64 ev.offset) ∧ W'.cell? ⟨w.heap.size, 6, none⟩ = some (.int .i64 ev.tick) ∧ W'.cell? ⟨w.heap.size, 7, none⟩ = some (.int .i64 ev.number) ∧ W'.cell? ⟨w.heap.size, 8, none⟩ = some (.int .i64 ev.flag) ∧ W'.cell? ⟨w.heap.size, 9, none⟩ = some (.string ev.name) ∧ W'.cell? ⟨w.heap.size, 10, none⟩ = some (.string ev.text) ∧ W'.cell? ⟨w.heap.size, 11, none⟩ = some (.string ev.layout) ∧ W'.cell? ⟨w.heap.size, 12, none⟩ = some (.string ev.visible) ∧ W'.cell? ⟨w.heap.size, 13, none⟩ = some (.bool ev.zoom) ∧ W'.cell? ⟨w.heap.size + 1, 2, none⟩ = some (.string S)) (go_keep) ((go_at_call 49; refine (HPd.out _).mono ?_; rintro e w2 ⟨⟨s0, rfl⟩, hb2⟩; have HR2 : Hid (RowSt w w2 ev WD S) := HRS.out.drew.below hb2; obtain ⟨y0, y1, y2, y3, y4, y5, y6, y7, y8, y9, y10, y11, y12, y13⟩ := HR2.out.e.cells; have y14 := HR2.out.c2; clear hb2))
          all_goals go_wp2
          all_goals go_ret2
          all_goals (rw [HN.out]; exact ⟨rfl, HR2.out.b⟩)
        | some t =>
          have HPd : Hid (∀ W, Calls Tryz.prog 49 #[.agg #[.int .i64 ev.kind, .int .i64 ev.session, .int .i64 ev.window, .int .i64 ev.pane, .int .i64 ev.index, .int .i64 ev.offset, .int .i64 ev.tick, .int .i64 ev.number, .int .i64 ev.flag, .string ev.name, .string ev.text, .string ev.layout, .string ev.visible, .bool ev.zoom], .int .u8 (c.byte.toNat : Int)] W fun e w' => e = .returned (.tuple #[.string (str t), .bool true]) ∧ Below W.heap.size W w') := fun W => by
            have := HPc'.out W
            rw [hT] at this
            exact this
          have HN : Hid (putsC cs ev = (putsC (cs.drop (n + 1)) ev).map ((acc ++ 32 :: t) ++ ·)) := putsC_step HC.out hT HP.out
          have htl := HTl.out c t hT
          have hz1 : (str (word ++ acc)).size ≤ 60000000 := by
            have h1 : (str word).size ≤ 30 := by rw [HW.out]; exact hwl
            rw [str_size] at h1 ⊢
            rw [List.length_append]
            omega
          have hz2 : (str t).size ≤ 8388640 := by rw [str_size]; exact htl
          have hz3 : (⟨#[32]⟩ : ByteArray).size = 1 := rfl
          have HL : Hid ((acc ++ 32 :: t).length ≤ (n + 1) * 8388641) := by
            show _ ≤ _
            rw [List.length_append, List.length_cons]
            omega
          obtain ⟨E, hE⟩ : ∃ E, str t = E := ⟨_, rfl⟩
          obtain ⟨E0, hE0⟩ : ∃ E, str (word ++ acc) = E := ⟨_, rfl⟩
          have HS3 : Hid (E0 ++ (⟨#[32]⟩ : ByteArray) ++ E = str (word ++ (acc ++ 32 :: t))) := by
            show _ = _
            rw [← hE0]
            exact str_three word acc t E hE.symm
          rw [hE] at HPd hz2
          rw [hE0] at hz1 ⊢
          clear hT HPc' hE hE0 htl hal
          go_wp2_with fail
          go_region_held3 (fun W' => W'.cell? ⟨w.heap.size, 0, none⟩ = some (.int .i64 ev.kind) ∧ W'.cell? ⟨w.heap.size, 1, none⟩ = some (.int .i64 ev.session) ∧ W'.cell? ⟨w.heap.size, 2, none⟩ = some (.int .i64 ev.window) ∧ W'.cell? ⟨w.heap.size, 3, none⟩ = some (.int .i64 ev.pane) ∧ W'.cell? ⟨w.heap.size, 4, none⟩ = some (.int .i64 ev.index) ∧ W'.cell? ⟨w.heap.size, 5, none⟩ = some (.int .i64 ev.offset) ∧ W'.cell? ⟨w.heap.size, 6, none⟩ = some (.int .i64 ev.tick) ∧ W'.cell? ⟨w.heap.size, 7, none⟩ = some (.int .i64 ev.number) ∧ W'.cell? ⟨w.heap.size, 8, none⟩ = some (.int .i64 ev.flag) ∧ W'.cell? ⟨w.heap.size, 9, none⟩ = some (.string ev.name) ∧ W'.cell? ⟨w.heap.size, 10, none⟩ = some (.string ev.text) ∧ W'.cell? ⟨w.heap.size, 11, none⟩ = some (.string ev.layout) ∧ W'.cell? ⟨w.heap.size, 12, none⟩ = some (.string ev.visible) ∧ W'.cell? ⟨w.heap.size, 13, none⟩ = some (.bool ev.zoom) ∧ W'.cell? ⟨w.heap.size + 1, 2, none⟩ = some (.string S)) (go_keep) ((go_at_call 49; refine (HPd.out _).mono ?_; rintro e w2 ⟨rfl, hb2⟩; have HR2 : Hid (RowSt w w2 ev WD S) := HRS.out.drew.below hb2; obtain ⟨y0, y1, y2, y3, y4, y5, y6, y7, y8, y9, y10, y11, y12, y13⟩ := HR2.out.e.cells; have y14 := HR2.out.c2; clear hb2))
          all_goals go_wp2
          all_goals go_roundw
          case rel => exact ⟨n + 1, acc ++ 32 :: t, by omega, by go_num, by rw [← HS3.out], HL.out, HN, HR2.out⟩
          case measure => simp [intOf]; omega
      · have HN : Hid (o = some (word ++ acc)) := HO1.out acc (by
          rw [HP.out, List.drop_of_length_le (by rw [HM.out]; omega)]
          show some (acc ++ []) = _
          rw [List.append_nil])
        go_wp2
        go_ret2
        rw [HN.out]
        exact ⟨rfl, HRS.out.b⟩

end Go.Proofs.YtlgkdnmhoboinaaGreatDoor
