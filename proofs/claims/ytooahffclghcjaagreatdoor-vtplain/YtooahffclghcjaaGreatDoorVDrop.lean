/-
  Rows that move up.
-/
import Derived.Test.YtooahffclghcjaaGreatDoorVWriteB
import Derived.Test.YtooahffclghcjaaGreatDoorVTold
import Derived.Laws.CopyRow
namespace Go.Proofs.YtooahffclghcjaaGreatDoor
open Go.RowKit
set_option linter.unusedVariables false
set_option maxRecDepth 100000

theorem infoGlS : (Tryz.prog.info? 85).map (·.size) = some 5 := by kernel_rfl
set_option maxHeartbeats 1000000 in
theorem erased_any {w : World} {b : Nat} {s : Sc} (h : ScAt w b s) : Calls Tryz.prog 54 #[.pointer (some ⟨b, 0, none⟩)] w fun x w' => x = .returned (.agg #[.int .i32 32, .int .i64 1, .int .i64 0, .int .i64 s.cur.ba, .int .i64 0]) ∧ Below w.heap.size w w' := by
  have c16 := h.c16
  have hlt := h.lt
  have HBl : Hid (∀ W, Calls Tryz.prog 25 #[.agg #[.int .i64 0, .int .i64 s.cur.ba, .int .i64 0]] W fun x w' => x = .returned (.agg #[.int .i32 32, .int .i64 1, .int .i64 0, .int .i64 s.cur.ba, .int .i64 0]) ∧ Below W.heap.size W w') := blank_any 0 s.cur.ba 0
  clear h
  go_enter Tryz.func54, Tryz.ntmps54
  go_wp2_with fail
  refine (HBl.out _).mono ?_
  rintro e w1 ⟨rfl, hb⟩
  have hk : w1.heap[w.heap.size]? = some (.cells #[.int .i32 0, .int .i64 0, .int .i64 0, .int .i64 0, .int .i64 0] 85 (0, 0)) := (hb.block _ (by simp)).trans (heap_alloc_new w _)
  have HK := hidK hk
  have HB : Hid (Below w.heap.size w w1) := ((Below.refl _ _).alloc (Nat.le_refl _) _).trans (hb.mono (by simp))
  obtain ⟨B, hB⟩ : ∃ B, w.heap.size = B := ⟨_, rfl⟩
  have HBe := hidK hB
  rw [hB] at HK hk
  rw [hB]
  have a0 := cell_atT hk 0
  have a1 := cell_atT hk 1
  have a2 := cell_atT hk 2
  have a3 := cell_atT hk 3
  have a4 := cell_atT hk 4
  simp at a0 a1 a2 a3 a4
  have f0 := free_atT hk 0
  have f1 := free_atT hk 1
  have f2 := free_atT hk 2
  have f3 := free_atT hk 3
  have f4 := free_atT hk 4
  clear hk hb c16 hlt hB
  go_wp2_with fail
  have hB1 := HBe.out
  have hq : ∀ i u X, Below w.heap.size w X → Below w.heap.size w (X.setCell ⟨B, i, none⟩ u) := fun i u X hX => hX.setCell (p := ⟨B, i, none⟩) (by simp only; omega) _
  refine ret_cell1 rfl rfl (cs := #[.int .i32 32, .int .i64 1, .int .i64 0, .int .i64 s.cur.ba, .int .i64 0]) (put_at (put_at (put_at (put_at (put_at HK.out 0 _) 1 _) 2 _) 3 _) 4 _) Tryz.underlying85 rfl infoGlS rfl ⟨rfl, ?_⟩
  exact hq _ _ _ (hq _ _ _ (hq _ _ _ (hq _ _ _ (hq _ _ _ HB.out))))
theorem infoRow1 : (Tryz.prog.info? 81).map (·.size) = some 1 := by kernel_rfl
/-- The first row goes below the others, blank. -/
def moved (rs : List (Nat × List Gl)) (ba : Int) : List (Nat × List Gl) := match rs with
  | [] => []
  | r :: rest => rest ++ [(r.1, List.replicate r.2.length ⟨32, 1, 0, ba, 0⟩)]
theorem RowsAt.moved {w w' : World} {G : Nat} {r : Nat × List Gl} {rest : List (Nat × List Gl)} (h : RowsAt w G (r :: rest) 0) (ba : Int) (hG : w'.heap[G]? = some (.cells ((rest.map rowV) ++ [rowV r]).toArray 81 (0, 0))) (hg : GAt w' r.1 (List.replicate r.2.length ⟨32, 1, 0, ba, 0⟩)) (hr : ∀ q ∈ rest, w'.heap[q.1]? = w.heap[q.1]?) : RowsAt w' G (Go.Proofs.YtooahffclghcjaaGreatDoor.moved (r :: rest) ba) 0 := by
  have hap := h.apart
  rw [List.pairwise_cons] at hap
  refine ⟨?_, fun q hq => ?_, ?_⟩
  · rw [hG]
    simp [Go.Proofs.YtooahffclghcjaaGreatDoor.moved, rowV]
  · have hq2 : q ∈ rest ++ [(r.1, List.replicate r.2.length (⟨32, 1, 0, ba, 0⟩ : Gl))] := hq
    rcases List.mem_append.1 hq2 with hq | hq
    · exact (h.row q (by simp [hq])).keep (hr q hq)
    · have e : q = (r.1, List.replicate r.2.length (⟨32, 1, 0, ba, 0⟩ : Gl)) := by simpa using hq
      rw [e]
      exact hg
  · show (rest ++ [(r.1, List.replicate r.2.length (⟨32, 1, 0, ba, 0⟩ : Gl))]).Pairwise fun a b => a.1 ≠ b.1
    rw [List.pairwise_append]
    refine ⟨hap.2, List.pairwise_singleton _ _, fun a ha q hq => ?_⟩
    have e : q = (r.1, List.replicate r.2.length (⟨32, 1, 0, ba, 0⟩ : Gl)) := by simpa using hq
    rw [e]
    exact fun e => hap.1 a ha e.symm
/-- What the copy leaves. -/
theorem copy_up {wr : World} {G : Nat} {r : Nat × List Gl} {rest : List (Nat × List Gl)} (h : RowsAt wr G (r :: rest) 0) (a : Addr) (ha : rest.length ≠ 0 → a = ⟨G, 1, none⟩) : ∃ CS : Array Value, (Builtin.copy_ #[40, 40] 3 #[.slice (some ⟨G, 0, none⟩) (rest.length + 1) (rest.length + 1), .slice (some a) rest.length rest.length]).run Tryz.prog wr = .ok (goInt rest.length) (wr.setRow G CS) ∧ CS.setIfInBounds rest.length (rowV r) = (rest.map rowV ++ [rowV r]).toArray ∧ CS.size = rest.length + 1 := by
  have hbk := h.blk
  rw [List.replicate_zero, List.append_nil] at hbk
  have hsrc : ∀ j v, (rest.map rowV)[j]? = some v → wr.cell? (a.add j) = some v := fun j v hv => by
    have hj := (List.getElem?_eq_some_iff.1 hv).1
    rw [List.length_map] at hj
    rw [ha (by omega), Addr.add_lit, cell_atT hbk, List.getElem?_toArray, List.map_cons, Nat.add_comm 1 j, List.getElem?_cons_succ]
    exact hv
  have hcp := run_copy_row Tryz.prog wr 40 40 3 81 G 0 (rest.length + 1) (rest.length + 1) a rest.length rest.length _ _ (rest.map rowV) underRows infoRow1 hbk (by rw [List.length_map]; exact (Nat.min_eq_left (by omega)).symm) hsrc (by simp) (fun v hv => by obtain ⟨q, _, rfl⟩ := List.mem_map.1 hv; rfl)
  rw [List.length_map] at hcp
  refine ⟨_, hcp, ?_, ?_⟩
  · simp only [List.take_zero, List.nil_append, Nat.zero_add, List.setIfInBounds_toArray]
    rw [List.set_append_right _ _ (by simp), List.length_map, Nat.sub_self]
    congr 2
    have hlen : (List.drop rest.length (List.map rowV (r :: rest))).length = 1 := by simp
    match hd : List.drop rest.length (List.map rowV (r :: rest)), hlen with
    | [x], _ => rfl
  · simp
set_option maxHeartbeats 4000000 in
theorem dropRows_one {w : World} {b : Nat} {s : Sc} {G : Nat} {r : Nat × List Gl} {rest : List (Nat × List Gl)} (h : Scn w b s G (r :: rest)) (hn : rest.length + 1 ≤ 1000) (hbot : s.bot = (rest.length : Int)) (hl : r.2.length ≤ 1000) : Calls Tryz.prog 93 #[.pointer (some ⟨b, 0, none⟩), .int .i64 0, .int .i64 1] w fun x w' => x = .returned (.tuple #[]) ∧ Scn w' b s G (moved (r :: rest) s.cur.ba) ∧ But [G, r.1] w w' := by
  have HS := hidK h
  obtain ⟨m, hm⟩ : ∃ m, rest.length = m := ⟨_, rfl⟩
  have HM := hidK hm
  rw [hm] at hn hbot
  have c2 := h.at_.c2
  have c41 := h.at_.c41
  rw [h.val, List.length_cons, hm] at c2
  rw [hbot] at c41
  clear h hm
  cases m with
  | zero =>
    go_enter Tryz.func93, Tryz.ntmps93
    go_wp2_with fail
    go_quiet (fail)
    go_wp2_with fail
    clear c2 c41
    go_loopw [24] (fun i wr => ∃ k : Nat, k ≤ 1 ∧ i = .int .i64 (k : Int) ∧ Hid ((k = 0 → Below w.heap.size w wr) ∧ (k = 1 → Scn wr b s G (moved (r :: rest) s.cur.ba) ∧ But [G, r.1] w wr))) (fun i _ => 1 - (intOf i).toNat)
    case atStart => exact ⟨0, by omega, rfl, fun _ => below_drewN _ _, fun h => by cases h⟩
    case round =>
      obtain ⟨k, hk, rfl, HR⟩ := hrel
      cases k with
      | zero =>
        have hb0 := HR.out.1 rfl
        have hS0 := HS.out.below hb0
        have HS0 := hidK hS0
        have HB0 := hidK hb0
        have cG : wr.cell? ⟨G, 0, none⟩ = some (.slice (some ⟨r.1, 0, none⟩) r.2.length r.2.length) := hS0.rows.cell (i := 0) rfl
        obtain ⟨CS, hcp, hC1, hC2⟩ := copy_up hS0.rows ⟨G, 0, none⟩ (fun h => absurd HM.out h)
        rw [HM.out] at hcp hC1 hC2
        have HBk := hidK hS0.rows.blk
        have HCS := hidK (And.intro hC1 hC2)
        have HEr : Hid (∀ W, ScAt W b s → Calls Tryz.prog 54 #[.pointer (some ⟨b, 0, none⟩)] W fun x w' => x = .returned (.agg #[.int .i32 32, .int .i64 1, .int .i64 0, .int .i64 s.cur.ba, .int .i64 0]) ∧ Below W.heap.size W w') := fun W hW => erased_any hW
        have HFi : Hid (∀ W, GAt W r.1 r.2 → Calls Tryz.prog 56 #[.slice (some ⟨r.1, 0, none⟩) r.2.length r.2.length, .agg #[.int .i32 32, .int .i64 1, .int .i64 0, .int .i64 s.cur.ba, .int .i64 0]] W fun x w' => x = .returned (.tuple #[]) ∧ GAt w' r.1 (List.replicate r.2.length ⟨32, 1, 0, s.cur.ba, 0⟩) ∧ But [r.1] W w') := fun W hW => by
          have h := fill_any hW 0 r.2.length r.2.length ⟨32, 1, 0, s.cur.ba, 0⟩ (by omega) hl
          rw [fil_all _ _ _ rfl] at h
          exact h
        clear hS0 hb0 hC1 hC2
        go_wp2_with fail
        have hbG : b ≠ G := HS0.out.at_.neG HS0.out.rows
        have hrG : r.1 ≠ G := HS0.out.rows.ne r (by simp)
        have hbr : b ≠ r.1 := HS0.out.at_.ne (HS0.out.rows.row r (by simp))
        have hS1 : ScAt (wr.setRow G CS) b s := HS0.out.at_.keep (setRow_other wr G b CS hbG)
        refine (HEr.out _ hS1).mono ?_
        rintro e w2 ⟨rfl, hb2⟩
        have hG1 : (wr.setRow G CS).heap[G]? = some (.cells CS 81 (0, 0)) := setRow_heap wr G _ CS _ _ HBk.out
        have hG2 : w2.heap[G]? = some (.cells CS 81 (0, 0)) := (hb2.block G (lt_of_block hG1)).trans hG1
        have hB1 : But [G] wr (wr.setRow G CS) := ⟨rfl, rfl, rfl, by simp, fun k hk hs => setRow_other wr G k CS (by simpa using hs)⟩
        have hB2 : But [G] wr w2 := hB1.trans (But.of hb2)
        have hg1 : GAt (wr.setRow G CS) r.1 r.2 := (HS0.out.rows.row r (by simp)).keep (setRow_other wr G r.1 CS hrG)
        have hg2 : GAt w2 r.1 r.2 := hg1.keep (hb2.block _ hg1.lt)
        have H2 : Hid (ScAt w2 b s ∧ w2.heap[G]? = some (.cells CS 81 (0, 0)) ∧ GAt w2 r.1 r.2 ∧ But [G] wr w2) := ⟨hS1.below hb2, hG2, hg2, hB2⟩
        clear hb2 hG1 hG2 hg1 hg2 hS1 hcp cG hB1 hB2
        go_wp2_with fail
        refine (HFi.out _ H2.out.2.2.1).mono ?_
        rintro e w3 ⟨rfl, hg3, hb3⟩
        have hG3 : w3.heap[G]? = some (.cells CS 81 (0, 0)) := (hb3.block G (lt_of_block H2.out.2.1) (by simpa using hrG.symm)).trans H2.out.2.1
        have hS3 : ScAt w3 b s := H2.out.1.but hb3 (by simpa using hbr)
        have H3 := hidK (And.intro hS3 (And.intro hG3 (And.intro hg3 hb3)))
        have cm : ∃ u, w3.cell? ⟨G, 0, none⟩ = some u := ⟨_, (cell_atT hG3 (0)).trans (Array.getElem?_eq_getElem (by rw [HCS.out.2]; omega))⟩
        obtain ⟨um, cm⟩ := cm
        have fm := free_atT hG3 (0)
        clear hG3 hS3 hg3 hb3
        go_wp2_with fail
        go_roundw
        case rel =>
          refine ⟨1, by omega, by go_num, (fun h => by cases h), fun _ => ?_⟩
          obtain ⟨hS3, hG3, hg3, hb3⟩ := H3.out
          have hG4 := put_at hG3 (0) (rowV r)
          rw [HCS.out.1] at hG4
          have hbut : But [G, r.1] wr w3 := (H2.out.2.2.2.mono (fun k _ hk => by simp at hk; simp [hk])).trans (hb3.mono (fun k _ hk => by simp at hk; simp [hk]))
          have hrest : ∀ q ∈ rest, (w3.setCell ⟨G, 0, none⟩ (rowV r)).heap[q.1]? = wr.heap[q.1]? := fun q hq => by
            have hqG : q.1 ≠ G := HS0.out.rows.ne q (by simp [hq])
            have hqr : q.1 ≠ r.1 := ((List.pairwise_cons.1 HS0.out.rows.apart).1 q hq).symm
            rw [Below.heap_setCell _ _ _ _ (fun e => hqG e)]
            exact hbut.block q.1 (HS0.out.rows.row q (by simp [hq])).lt (by simp [hqG, hqr])
          refine ⟨⟨put_other hS3 hbG _ _, HS0.out.rows.moved s.cur.ba hG4 (put_other hg3 hrG _ _) hrest, ?_⟩, ?_⟩
          · rw [HS0.out.val]
            simp [moved]
          · exact (But.of HB0.out).trans (hbut.setCell (p := ⟨G, 0, none⟩) (.inl (by simp)) _)
        case measure => simp [intOf]
      | succ j =>
        obtain rfl : j = 0 := by omega
        have H1 := hidK (HR.out.2 rfl)
        clear HR
        go_wp2_with fail
        go_end0
        exact ⟨rfl, H1.out⟩
  | succ m =>
    go_enter Tryz.func93, Tryz.ntmps93
    go_wp2_with fail
    go_quiet (fail)
    go_wp2_with fail
    clear c2 c41
    go_loopw [24] (fun i wr => ∃ k : Nat, k ≤ 1 ∧ i = .int .i64 (k : Int) ∧ Hid ((k = 0 → Below w.heap.size w wr) ∧ (k = 1 → Scn wr b s G (moved (r :: rest) s.cur.ba) ∧ But [G, r.1] w wr))) (fun i _ => 1 - (intOf i).toNat)
    case atStart => exact ⟨0, by omega, rfl, fun _ => below_drewN _ _, fun h => by cases h⟩
    case round =>
      obtain ⟨k, hk, rfl, HR⟩ := hrel
      cases k with
      | zero =>
        have hb0 := HR.out.1 rfl
        have hS0 := HS.out.below hb0
        have HS0 := hidK hS0
        have HB0 := hidK hb0
        have cG : wr.cell? ⟨G, 0, none⟩ = some (.slice (some ⟨r.1, 0, none⟩) r.2.length r.2.length) := hS0.rows.cell (i := 0) rfl
        obtain ⟨CS, hcp, hC1, hC2⟩ := copy_up hS0.rows ⟨G, 1, none⟩ (fun h => rfl)
        rw [HM.out] at hcp hC1 hC2
        have HBk := hidK hS0.rows.blk
        have HCS := hidK (And.intro hC1 hC2)
        have HEr : Hid (∀ W, ScAt W b s → Calls Tryz.prog 54 #[.pointer (some ⟨b, 0, none⟩)] W fun x w' => x = .returned (.agg #[.int .i32 32, .int .i64 1, .int .i64 0, .int .i64 s.cur.ba, .int .i64 0]) ∧ Below W.heap.size W w') := fun W hW => erased_any hW
        have HFi : Hid (∀ W, GAt W r.1 r.2 → Calls Tryz.prog 56 #[.slice (some ⟨r.1, 0, none⟩) r.2.length r.2.length, .agg #[.int .i32 32, .int .i64 1, .int .i64 0, .int .i64 s.cur.ba, .int .i64 0]] W fun x w' => x = .returned (.tuple #[]) ∧ GAt w' r.1 (List.replicate r.2.length ⟨32, 1, 0, s.cur.ba, 0⟩) ∧ But [r.1] W w') := fun W hW => by
          have h := fill_any hW 0 r.2.length r.2.length ⟨32, 1, 0, s.cur.ba, 0⟩ (by omega) hl
          rw [fil_all _ _ _ rfl] at h
          exact h
        clear hS0 hb0 hC1 hC2
        go_wp2_with fail
        have hbG : b ≠ G := HS0.out.at_.neG HS0.out.rows
        have hrG : r.1 ≠ G := HS0.out.rows.ne r (by simp)
        have hbr : b ≠ r.1 := HS0.out.at_.ne (HS0.out.rows.row r (by simp))
        have hS1 : ScAt (wr.setRow G CS) b s := HS0.out.at_.keep (setRow_other wr G b CS hbG)
        refine (HEr.out _ hS1).mono ?_
        rintro e w2 ⟨rfl, hb2⟩
        have hG1 : (wr.setRow G CS).heap[G]? = some (.cells CS 81 (0, 0)) := setRow_heap wr G _ CS _ _ HBk.out
        have hG2 : w2.heap[G]? = some (.cells CS 81 (0, 0)) := (hb2.block G (lt_of_block hG1)).trans hG1
        have hB1 : But [G] wr (wr.setRow G CS) := ⟨rfl, rfl, rfl, by simp, fun k hk hs => setRow_other wr G k CS (by simpa using hs)⟩
        have hB2 : But [G] wr w2 := hB1.trans (But.of hb2)
        have hg1 : GAt (wr.setRow G CS) r.1 r.2 := (HS0.out.rows.row r (by simp)).keep (setRow_other wr G r.1 CS hrG)
        have hg2 : GAt w2 r.1 r.2 := hg1.keep (hb2.block _ hg1.lt)
        have H2 : Hid (ScAt w2 b s ∧ w2.heap[G]? = some (.cells CS 81 (0, 0)) ∧ GAt w2 r.1 r.2 ∧ But [G] wr w2) := ⟨hS1.below hb2, hG2, hg2, hB2⟩
        clear hb2 hG1 hG2 hg1 hg2 hS1 hcp cG hB1 hB2
        go_wp2_with fail
        refine (HFi.out _ H2.out.2.2.1).mono ?_
        rintro e w3 ⟨rfl, hg3, hb3⟩
        have hG3 : w3.heap[G]? = some (.cells CS 81 (0, 0)) := (hb3.block G (lt_of_block H2.out.2.1) (by simpa using hrG.symm)).trans H2.out.2.1
        have hS3 : ScAt w3 b s := H2.out.1.but hb3 (by simpa using hbr)
        have H3 := hidK (And.intro hS3 (And.intro hG3 (And.intro hg3 hb3)))
        have cm : ∃ u, w3.cell? ⟨G, m + 1, none⟩ = some u := ⟨_, (cell_atT hG3 (m + 1)).trans (Array.getElem?_eq_getElem (by rw [HCS.out.2]; omega))⟩
        obtain ⟨um, cm⟩ := cm
        have fm := free_atT hG3 (m + 1)
        clear hG3 hS3 hg3 hb3
        go_wp2_with fail
        go_roundw
        case rel =>
          refine ⟨1, by omega, by go_num, (fun h => by cases h), fun _ => ?_⟩
          obtain ⟨hS3, hG3, hg3, hb3⟩ := H3.out
          have hG4 := put_at hG3 (m + 1) (rowV r)
          rw [HCS.out.1] at hG4
          have hbut : But [G, r.1] wr w3 := (H2.out.2.2.2.mono (fun k _ hk => by simp at hk; simp [hk])).trans (hb3.mono (fun k _ hk => by simp at hk; simp [hk]))
          have hrest : ∀ q ∈ rest, (w3.setCell ⟨G, m + 1, none⟩ (rowV r)).heap[q.1]? = wr.heap[q.1]? := fun q hq => by
            have hqG : q.1 ≠ G := HS0.out.rows.ne q (by simp [hq])
            have hqr : q.1 ≠ r.1 := ((List.pairwise_cons.1 HS0.out.rows.apart).1 q hq).symm
            rw [Below.heap_setCell _ _ _ _ (fun e => hqG e)]
            exact hbut.block q.1 (HS0.out.rows.row q (by simp [hq])).lt (by simp [hqG, hqr])
          refine ⟨⟨put_other hS3 hbG _ _, HS0.out.rows.moved s.cur.ba hG4 (put_other hg3 hrG _ _) hrest, ?_⟩, ?_⟩
          · rw [HS0.out.val]
            simp [moved]
          · exact (But.of HB0.out).trans (hbut.setCell (p := ⟨G, m + 1, none⟩) (.inl (by simp)) _)
        case measure => simp [intOf]
      | succ j =>
        obtain rfl : j = 0 := by omega
        have H1 := hidK (HR.out.2 rfl)
        clear HR
        go_wp2_with fail
        go_end0
        exact ⟨rfl, H1.out⟩
end Go.Proofs.YtooahffclghcjaaGreatDoor
