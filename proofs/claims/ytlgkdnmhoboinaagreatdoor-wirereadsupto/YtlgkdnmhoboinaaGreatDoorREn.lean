/-
  The document's Encode.
  The document's Rows and Encode.
  The document's Encode.
  The document's Encode: an answer's line; every event.
-/
import Derived.Test.YtlgkdnmhoboinaaGreatDoorRRo
import Derived.Test.YtlgkdnmhoboinaaGreatDoorRPure
import Derived.LoopTactic
import Derived.Deep.RegionHeld3
namespace Go.Proofs.YtlgkdnmhoboinaaGreatDoor
open Go.RowKit
set_option linter.unusedVariables false
set_option maxRecDepth 20000

theorem parts24 : (partsOf (chs 24)).toList = [120] := by rw [Lib.toList_data]; rfl

theorem row_any (k : Nat) (h1 : 1 ≤ k) (h2 : k ≤ 24) (h4 : k ≠ 4) (ev : Ev) (hk : ev.kind = k) (hf : ev.Fits) (w : World) :
    Calls Tryz.prog 31 #[.agg ev.vals, .agg #[.int .i64 k, .string (str (wordOf k)), .string (partsOf (chs k))]] w (EncPost (encS ev) w) := by
  obtain ⟨e1, e2⟩ := enc_row k h1 h2 h4 ev hk
  have hcs : ∀ c ∈ chs k, c ≠ .qc := by
    rcases (show k = 1 ∨ k = 2 ∨ k = 3 ∨ k = 5 ∨ k = 6 ∨ k = 7 ∨ k = 8 ∨ k = 9 ∨ k = 10 ∨ k = 11 ∨ k = 12 ∨ k = 13 ∨ k = 14 ∨ k = 15 ∨ k = 16 ∨ k = 17 ∨ k = 18 ∨ k = 19 ∨ k = 20 ∨ k = 21 ∨ k = 22 ∨ k = 23 ∨ k = 24 by omega) with rfl | rfl | rfl | rfl | rfl | rfl | rfl | rfl | rfl | rfl | rfl | rfl | rfl | rfl | rfl | rfl | rfl | rfl | rfl | rfl | rfl | rfl | rfl
    all_goals decide
  have hln : (chs k).length ≤ 6 := by
    rcases (show k = 1 ∨ k = 2 ∨ k = 3 ∨ k = 5 ∨ k = 6 ∨ k = 7 ∨ k = 8 ∨ k = 9 ∨ k = 10 ∨ k = 11 ∨ k = 12 ∨ k = 13 ∨ k = 14 ∨ k = 15 ∨ k = 16 ∨ k = 17 ∨ k = 18 ∨ k = 19 ∨ k = 20 ∨ k = 21 ∨ k = 22 ∨ k = 23 ∨ k = 24 by omega) with rfl | rfl | rfl | rfl | rfl | rfl | rfl | rfl | rfl | rfl | rfl | rfl | rfl | rfl | rfl | rfl | rfl | rfl | rfl | rfl | rfl | rfl | rfl
    all_goals decide
  have hwd : (str (wordOf k)).size ≤ 30 := by
    rcases (show k = 1 ∨ k = 2 ∨ k = 3 ∨ k = 5 ∨ k = 6 ∨ k = 7 ∨ k = 8 ∨ k = 9 ∨ k = 10 ∨ k = 11 ∨ k = 12 ∨ k = 13 ∨ k = 14 ∨ k = 15 ∨ k = 16 ∨ k = 17 ∨ k = 18 ∨ k = 19 ∨ k = 20 ∨ k = 21 ∨ k = 22 ∨ k = 23 ∨ k = 24 by omega) with rfl | rfl | rfl | rfl | rfl | rfl | rfl | rfl | rfl | rfl | rfl | rfl | rfl | rfl | rfl | rfl | rfl | rfl | rfl | rfl | rfl | rfl | rfl
    all_goals decide
  have hkeep : ∀ W, Calls Tryz.prog 48 #[.agg ev.vals, .string (partsOf (chs k))] W fun e w' => e = .returned (.agg (keepC (chs k) ev (Ev.zero k)).vals) ∧ Below W.heap.size W w' := fun W => by
    have := keeps_any ev (chs k) hcs (by omega) W
    rw [hk] at this
    exact this
  by_cases hkk : keepC (chs k) ev (Ev.zero k) = ev
  · rw [hkk] at hkeep
    have hE := e1 hkk
    have hEq : ∀ W : World, (Op.equalIn 10000 28 (.agg ev.vals) (.agg ev.vals)).run Tryz.prog W = .ok true W := fun W => by
      have := eqEv ev ev W
      rw [(evEq_iff ev ev).2 rfl] at this
      exact this
    have hpart : ∀ c : Ch, c ∈ chs k → ∀ W, Calls Tryz.prog 49 #[.agg ev.vals, .int .u8 (c.byte.toNat : Int)] W (PartPost (c.T ev) W) := fun c hc W => part_any c (hcs c hc) ev hf W
    by_cases h24 : k = 24
    · subst h24
      by_cases h0 : ev.text.size = 0
      · have hr : encS ev = some (wordOf 24) := by rw [hE]; exact if_pos ⟨rfl, h0⟩
        exact row_short _ _ _ ev w hkeep hEq parts24 (by rw [empty_text h0, Lib.toList_data]) _ (wordOf 24) hr rfl
      · have hr : encS ev = (putsC (chs 24) ev).map (wordOf 24 ++ ·) := by rw [hE]; exact if_neg (fun h => h0 h.2)
        refine row_loop _ _ _ ev w hkeep hEq (.inr ⟨parts24, toList_neN h0⟩) (chs 24) _ hln rfl (partsOf_size _) (index_part _) hpart (fun c t h => T_len c ev hf t h) (wordOf 24) rfl hwd _ (fun acc h => ?_) (fun h => ?_)
        · rw [hr, h]; rfl
        · rw [hr, h]; rfl
    · have hr : encS ev = (putsC (chs k) ev).map (wordOf k ++ ·) := by rw [hE]; exact if_neg (fun h => h24 h.1)
      have hx : ((partsOf (chs k)).toList == [120]) = false := by
        rw [Lib.toList_data, show (partsOf (chs k)).data.toList = (chs k).map Ch.byte from str_data _]
        rcases (show k = 1 ∨ k = 2 ∨ k = 3 ∨ k = 5 ∨ k = 6 ∨ k = 7 ∨ k = 8 ∨ k = 9 ∨ k = 10 ∨ k = 11 ∨ k = 12 ∨ k = 13 ∨ k = 14 ∨ k = 15 ∨ k = 16 ∨ k = 17 ∨ k = 18 ∨ k = 19 ∨ k = 20 ∨ k = 21 ∨ k = 22 ∨ k = 23 by omega) with rfl | rfl | rfl | rfl | rfl | rfl | rfl | rfl | rfl | rfl | rfl | rfl | rfl | rfl | rfl | rfl | rfl | rfl | rfl | rfl | rfl | rfl
        all_goals decide
      refine row_loop _ _ _ ev w hkeep hEq (.inl hx) (chs k) _ hln rfl (partsOf_size _) (index_part _) hpart (fun c t h => T_len c ev hf t h) (wordOf k) rfl hwd _ (fun acc h => ?_) (fun h => ?_)
      · rw [hr, h]; rfl
      · rw [hr, h]; rfl
  · rw [e2 hkk]
    refine row_bad _ _ _ ev (keepC (chs k) ev (Ev.zero k)) w hkeep (fun W => ?_)
    have := eqEv ev (keepC (chs k) ev (Ev.zero k)) W
    rw [Bool.eq_false_iff.2 (fun h => hkk ((evEq_iff _ _).1 h).symm)] at this
    exact this

end Go.Proofs.YtlgkdnmhoboinaaGreatDoor

namespace Go.Proofs.YtlgkdnmhoboinaaGreatDoor
open Go.RowKit
set_option linter.unusedVariables false
set_option maxRecDepth 20000

/-- The table lies in a block. -/
def TabAt (w : World) (b : Nat) : Prop := ∀ i, i < 23 → w.cell? ⟨b, i * 3, none⟩ = some (.int .i64 (kAt i : Nat)) ∧ w.cell? ⟨b, i * 3 + 1, none⟩ = some (.string (str (wordOf (kAt i)))) ∧ w.cell? ⟨b, i * 3 + 2, none⟩ = some (.string (partsOf (chs (kAt i))))
theorem TabAt.below {w w' : World} {b B : Nat} (h : TabAt w b) (hb : Below B w w') (hB : b < B) : TabAt w' b := fun i hi => by
  obtain ⟨h1, h2, h3⟩ := h i hi
  exact ⟨(hb.cell (p := ⟨b, i * 3, none⟩) hB).trans h1, (hb.cell (p := ⟨b, i * 3 + 1, none⟩) hB).trans h2, (hb.cell (p := ⟨b, i * 3 + 2, none⟩) hB).trans h3⟩
theorem cell_new (w : World) (cs : Array Value) (t : TypeId) (o : Nat) : (w.alloc (.cells cs t)).cell? ⟨w.heap.size, o, none⟩ = cs[o]? := by
  have hn := heap_alloc_new w (.cells cs t)
  unfold World.cell?
  rw [hn]
  rfl

set_option maxHeartbeats 8000000 in
theorem rows_any (w : World) : Calls Tryz.prog 30 #[] w fun e w' => e = .returned (.slice (some ⟨w.heap.size, 0, none⟩) 23 23) ∧ TabAt w' w.heap.size ∧ w.heap.size < w'.heap.size ∧ Below w.heap.size w w' := by
  go_enter Tryz.func30, Tryz.ntmps30
  go_wp2
  go_ret
  refine ⟨rfl, fun i hi => ?_, by simp, (Below.refl _ _).alloc (Nat.le_refl _) _⟩
  rw [cell_new, cell_new, cell_new]
  rcases (show i = 0 ∨ i = 1 ∨ i = 2 ∨ i = 3 ∨ i = 4 ∨ i = 5 ∨ i = 6 ∨ i = 7 ∨ i = 8 ∨ i = 9 ∨ i = 10 ∨ i = 11 ∨ i = 12 ∨ i = 13 ∨ i = 14 ∨ i = 15 ∨ i = 16 ∨ i = 17 ∨ i = 18 ∨ i = 19 ∨ i = 20 ∨ i = 21 ∨ i = 22 by omega) with rfl | rfl | rfl | rfl | rfl | rfl | rfl | rfl | rfl | rfl | rfl | rfl | rfl | rfl | rfl | rfl | rfl | rfl | rfl | rfl | rfl | rfl | rfl
  all_goals exact ⟨rfl, rfl, rfl⟩

theorem kinds_all (k : Int) (h : ∀ j, j < 23 → (kAt j : Int) ≠ k) (h4 : k ≠ 4) : ¬ (0 < k ∧ k < 25) := by
  rintro ⟨h0, h1⟩
  obtain ⟨i, hi, hk⟩ := kAt_of k.toNat (by omega) (by omega) (by omega)
  exact h i hi (by rw [hk]; omega)

end Go.Proofs.YtlgkdnmhoboinaaGreatDoor

namespace Go.Proofs.YtlgkdnmhoboinaaGreatDoor
open Go.RowKit
set_option linter.unusedVariables false
set_option maxRecDepth 20000

/-- What Encode has. -/
structure EncSt (w wr : World) (ev : Ev) (b : Nat) : Prop where
  e : EvAt wr w.heap.size ev
  t : TabAt wr b
  lt : b < wr.heap.size
  b : Below w.heap.size w wr

theorem EncSt.below {w wr wr' : World} {ev : Ev} {b : Nat} (h : EncSt w wr ev b) (hb : Below wr.heap.size wr wr') : EncSt w wr' ev b := ⟨h.e.below hb h.e.lt, h.t.below hb h.lt, Nat.lt_of_lt_of_le h.lt hb.size, below_step h.b hb⟩
theorem EncSt.drew {w wr : World} {ev : Ev} {b : Nat} (h : EncSt w wr ev b) : EncSt w wr.drew ev b := ⟨h.e, h.t, h.lt, h.b.drew⟩
set_option maxHeartbeats 1000000 in
theorem refEnc_other (ev : Ev) (hf : ev.Fits) (h4 : ev.kind ≠ 4) (w : World) : Calls Tryz.prog 14 #[.agg ev.vals] w (EncPost (encS ev) w) := by
  have hk4 : (ev.kind == 4) = false := by simpa using h4
  have HRw : Hid (∀ (n : Nat), n < 23 → (kAt n : Int) = ev.kind → ∀ W, Calls Tryz.prog 31 #[.agg ev.vals, .agg #[.int .i64 (kAt n : Nat), .string (str (wordOf (kAt n))), .string (partsOf (chs (kAt n)))]] W (EncPost (encS ev) W)) := fun n hn hk W => by
    obtain ⟨a1, a2, a3⟩ := kAt_in hn
    exact row_any (kAt n) a1 a2 a3 ev hk.symm hf W
  have HOut : Hid ((∀ j, j < 23 → (kAt j : Int) ≠ ev.kind) → encS ev = none) := fun h => encS_out ev (kinds_all ev.kind h h4)
  have HV : Hid (EvAt (w.alloc (.cells ev.vals 28)) w.heap.size ev) := EvAt.new w ev
  clear h4 hf
  obtain ⟨o, ho⟩ : ∃ o, encS ev = o := ⟨_, rfl⟩
  rw [ho] at HRw HOut ⊢
  clear ho
  unfold Ev.vals at HV HRw ⊢
  go_enter Tryz.func14, Tryz.ntmps14
  go_wp2_with fail
  refine (rows_any _).mono ?_
  rintro e w1 ⟨rfl, ht1, hl1, hb1⟩
  have hV1 := HV.out.below hb1 HV.out.lt
  obtain ⟨b, hb⟩ : ∃ b, (w.alloc (.cells #[.int .i64 ev.kind, .int .i64 ev.session, .int .i64 ev.window, .int .i64 ev.pane, .int .i64 ev.index, .int .i64 ev.offset, .int .i64 ev.tick, .int .i64 ev.number, .int .i64 ev.flag, .string ev.name, .string ev.text, .string ev.layout, .string ev.visible, .bool ev.zoom] 28)).heap.size = b := ⟨_, rfl⟩
  have HS : Hid (EncSt w w1 ev b) := ⟨hV1, hb ▸ ht1, hb ▸ hl1, below_step (below1 _ _) hb1⟩
  rw [hb]
  clear hb ht1 hl1 hb1 hV1 HV
  obtain ⟨q0, q1, q2, q3, q4, q5, q6, q7, q8, q9, q10, q11, q12, q13⟩ := HS.out.e.cells
  go_wp2
  go_loopw [5] (fun i wr => ∃ n : Nat, n ≤ 23 ∧ i = .int .i64 n ∧ Hid (∀ j, j < n → (kAt j : Int) ≠ ev.kind) ∧ EncSt w wr ev b) (fun i _ => 23 - (intOf i).toNat)
  case atStart => exact ⟨0, Nat.zero_le _, rfl, (fun j h => absurd h (Nat.not_lt_zero j)), HS.out⟩
  case round =>
    obtain ⟨n, hn, rfl, HN, hst⟩ := hrel
    have HS2 : Hid (EncSt w wr ev b) := hst
    clear hst HS q0 q1 q2 q3 q4 q5 q6 q7 q8 q9 q10 q11 q12 q13
    obtain ⟨q0, q1, q2, q3, q4, q5, q6, q7, q8, q9, q10, q11, q12, q13⟩ := HS2.out.e.cells
    by_cases hlt : n < 23
    · obtain ⟨t0, t1, t2⟩ := HS2.out.t n hlt
      have HRn := HRw.out n hlt
      obtain ⟨kn, hkn⟩ : ∃ k, kAt n = k := ⟨_, rfl⟩
      obtain ⟨wd, hwd⟩ : ∃ x, str (wordOf (kAt n)) = x := ⟨_, rfl⟩
      obtain ⟨pt, hpt⟩ : ∃ x, partsOf (chs (kAt n)) = x := ⟨_, rfl⟩
      have HKn : Hid (kAt n = kn) := hkn
      have HWd : Hid (str (wordOf (kAt n)) = wd) := hwd
      have HPd : Hid (partsOf (chs (kAt n)) = pt) := hpt
      rw [hwd] at t1 HRn
      rw [hpt] at t2 HRn
      rw [hkn] at t0 HRn
      clear hwd hpt hkn
      by_cases he : ((kn : Int) == ev.kind) = true
      · have HRk : Hid (∀ W, Calls Tryz.prog 31 #[.agg #[.int .i64 ev.kind, .int .i64 ev.session, .int .i64 ev.window, .int .i64 ev.pane, .int .i64 ev.index, .int .i64 ev.offset, .int .i64 ev.tick, .int .i64 ev.number, .int .i64 ev.flag, .string ev.name, .string ev.text, .string ev.layout, .string ev.visible, .bool ev.zoom], .agg #[.int .i64 (kn : Nat), .string wd, .string pt]] W (EncPost o W)) := HRn (eq_of_beq he)
        clear HRn
        cases o with
        | none =>
          have HRe : Hid (∀ W, Calls Tryz.prog 31 #[.agg #[.int .i64 ev.kind, .int .i64 ev.session, .int .i64 ev.window, .int .i64 ev.pane, .int .i64 ev.index, .int .i64 ev.offset, .int .i64 ev.tick, .int .i64 ev.number, .int .i64 ev.flag, .string ev.name, .string ev.text, .string ev.layout, .string ev.visible, .bool ev.zoom], .agg #[.int .i64 (kn : Nat), .string wd, .string pt]] W fun e w' => e = .returned (.tuple #[.string ⟨#[]⟩, .int .i64 30]) ∧ Below W.heap.size W w') := fun W => HRk.out W
          have HD : Hid (EncSt w wr.drew ev b) := HS2.out.drew
          have HDD : Hid (EncSt w wr.drew.drew ev b) := HS2.out.drew.drew
          clear HRk
          go_wp2_with fail
          go_region_held3 (fun W' => W'.cell? ⟨b, n * 3, none⟩ = some (.int .i64 (kn : Nat)) ∧ W'.cell? ⟨w.heap.size, 0, none⟩ = some (.int .i64 ev.kind)) (go_keep) (fail)
          go_wp2_with fail
          go_region_held3 (fun W' => W'.cell? ⟨w.heap.size, 0, none⟩ = some (.int .i64 ev.kind) ∧ W'.cell? ⟨w.heap.size, 1, none⟩ = some (.int .i64 ev.session) ∧ W'.cell? ⟨w.heap.size, 2, none⟩ = some (.int .i64 ev.window) ∧ W'.cell? ⟨w.heap.size, 3, none⟩ = some (.int .i64 ev.pane) ∧ W'.cell? ⟨w.heap.size, 4, none⟩ = some (.int .i64 ev.index) ∧ W'.cell? ⟨w.heap.size, 5, none⟩ = some (.int .i64 ev.offset) ∧ W'.cell? ⟨w.heap.size, 6, none⟩ = some (.int .i64 ev.tick) ∧ W'.cell? ⟨w.heap.size, 7, none⟩ = some (.int .i64 ev.number) ∧ W'.cell? ⟨w.heap.size, 8, none⟩ = some (.int .i64 ev.flag) ∧ W'.cell? ⟨w.heap.size, 9, none⟩ = some (.string ev.name) ∧ W'.cell? ⟨w.heap.size, 10, none⟩ = some (.string ev.text) ∧ W'.cell? ⟨w.heap.size, 11, none⟩ = some (.string ev.layout) ∧ W'.cell? ⟨w.heap.size, 12, none⟩ = some (.string ev.visible) ∧ W'.cell? ⟨w.heap.size, 13, none⟩ = some (.bool ev.zoom) ∧ W'.cell? ⟨b, n * 3, none⟩ = some (.int .i64 (kn : Nat)) ∧ W'.cell? ⟨b, n * 3 + 1, none⟩ = some (.string wd) ∧ W'.cell? ⟨b, n * 3 + 2, none⟩ = some (.string pt)) (go_keep) ((go_at_call 31; refine (HRe.out _).mono ?_; rintro e w2 ⟨rfl, hb2⟩; have HE2 : Hid (EncSt w w2 ev b) := HDD.out.below hb2; obtain ⟨y0, y1, y2, y3, y4, y5, y6, y7, y8, y9, y10, y11, y12, y13⟩ := HE2.out.e.cells; obtain ⟨z0, z1, z2⟩ := HE2.out.t n hlt; rw [HKn.out] at z0; rw [HWd.out] at z1; rw [HPd.out] at z2; clear hb2))
          all_goals go_wp2
          all_goals go_ret2
          all_goals exact ⟨rfl, HE2.out.b⟩
        | some l =>
          have HRe : Hid (∀ W, Calls Tryz.prog 31 #[.agg #[.int .i64 ev.kind, .int .i64 ev.session, .int .i64 ev.window, .int .i64 ev.pane, .int .i64 ev.index, .int .i64 ev.offset, .int .i64 ev.tick, .int .i64 ev.number, .int .i64 ev.flag, .string ev.name, .string ev.text, .string ev.layout, .string ev.visible, .bool ev.zoom], .agg #[.int .i64 (kn : Nat), .string wd, .string pt]] W fun e w' => e = .returned (.tuple #[.string (str l), .int .i64 0]) ∧ Below W.heap.size W w') := fun W => HRk.out W
          have HD : Hid (EncSt w wr.drew ev b) := HS2.out.drew
          have HDD : Hid (EncSt w wr.drew.drew ev b) := HS2.out.drew.drew
          clear HRk
          go_wp2_with fail
          go_region_held3 (fun W' => W'.cell? ⟨b, n * 3, none⟩ = some (.int .i64 (kn : Nat)) ∧ W'.cell? ⟨w.heap.size, 0, none⟩ = some (.int .i64 ev.kind)) (go_keep) (fail)
          go_wp2_with fail
          go_region_held3 (fun W' => W'.cell? ⟨w.heap.size, 0, none⟩ = some (.int .i64 ev.kind) ∧ W'.cell? ⟨w.heap.size, 1, none⟩ = some (.int .i64 ev.session) ∧ W'.cell? ⟨w.heap.size, 2, none⟩ = some (.int .i64 ev.window) ∧ W'.cell? ⟨w.heap.size, 3, none⟩ = some (.int .i64 ev.pane) ∧ W'.cell? ⟨w.heap.size, 4, none⟩ = some (.int .i64 ev.index) ∧ W'.cell? ⟨w.heap.size, 5, none⟩ = some (.int .i64 ev.offset) ∧ W'.cell? ⟨w.heap.size, 6, none⟩ = some (.int .i64 ev.tick) ∧ W'.cell? ⟨w.heap.size, 7, none⟩ = some (.int .i64 ev.number) ∧ W'.cell? ⟨w.heap.size, 8, none⟩ = some (.int .i64 ev.flag) ∧ W'.cell? ⟨w.heap.size, 9, none⟩ = some (.string ev.name) ∧ W'.cell? ⟨w.heap.size, 10, none⟩ = some (.string ev.text) ∧ W'.cell? ⟨w.heap.size, 11, none⟩ = some (.string ev.layout) ∧ W'.cell? ⟨w.heap.size, 12, none⟩ = some (.string ev.visible) ∧ W'.cell? ⟨w.heap.size, 13, none⟩ = some (.bool ev.zoom) ∧ W'.cell? ⟨b, n * 3, none⟩ = some (.int .i64 (kn : Nat)) ∧ W'.cell? ⟨b, n * 3 + 1, none⟩ = some (.string wd) ∧ W'.cell? ⟨b, n * 3 + 2, none⟩ = some (.string pt)) (go_keep) ((go_at_call 31; refine (HRe.out _).mono ?_; rintro e w2 ⟨rfl, hb2⟩; have HE2 : Hid (EncSt w w2 ev b) := HDD.out.below hb2; obtain ⟨y0, y1, y2, y3, y4, y5, y6, y7, y8, y9, y10, y11, y12, y13⟩ := HE2.out.e.cells; obtain ⟨z0, z1, z2⟩ := HE2.out.t n hlt; rw [HKn.out] at z0; rw [HWd.out] at z1; rw [HPd.out] at z2; clear hb2))
          all_goals go_wp2
          all_goals go_ret2
          all_goals exact ⟨rfl, HE2.out.b⟩
      · have he' : ((kn : Int) == ev.kind) = false := by simpa using he
        have HN' : Hid (∀ j, j < n + 1 → (kAt j : Int) ≠ ev.kind) := fun j hj => by
          by_cases hjn : j = n
          · subst hjn
            rw [HKn.out]
            exact fun h => by rw [h] at he'; simp at he'
          · exact HN.out j (by omega)
        clear he HRn HN
        go_wp2_with fail
        go_region_held3 (fun W' => W'.cell? ⟨b, n * 3, none⟩ = some (.int .i64 (kn : Nat)) ∧ W'.cell? ⟨w.heap.size, 0, none⟩ = some (.int .i64 ev.kind)) (go_keep) (fail)
        go_wp2
        go_roundw
        case rel => exact ⟨n + 1, by omega, by go_num, HN', HS2.out.drew⟩
        case measure => simp [intOf]; omega
    · have HO : Hid (o = none) := HOut.out (fun j hj => HN.out j (by omega))
      go_wp2
      go_ret2
      rw [HO.out]
      exact ⟨rfl, HS2.out.b⟩

end Go.Proofs.YtlgkdnmhoboinaaGreatDoor

namespace Go.Proofs.YtlgkdnmhoboinaaGreatDoor
open Go.RowKit
set_option linter.unusedVariables false
set_option maxRecDepth 20000

set_option maxHeartbeats 1000000 in
theorem refEnc_four (ev : Ev) (hf : ev.Fits) (h4 : ev.kind = 4) (w : World) : Calls Tryz.prog 14 #[.agg ev.vals] w (EncPost (encS ev) w) := by
  obtain ⟨e1, e2⟩ := enc_body ev h4
  have hs := hf.text
  unfold slim at hs
  have hlen : (escB ev.text.data.toList).length ≤ 140737488355328 := by have := escB_length ev.text.data.toList; rw [size_data] at this; omega
  have HCn : Hid (∀ W, Calls Tryz.prog 29 #[.string ev.text] W fun e w' => e = .returned (.string (str (escB ev.text.data.toList))) ∧ Below W.heap.size W w') := fun W => refEscapeBody_any _ W (by omega) hlen
  have hv : ev.vals = #[.int .i64 4, .int .i64 ev.session, .int .i64 ev.window, .int .i64 ev.pane, .int .i64 ev.index, .int .i64 ev.offset, .int .i64 ev.tick, .int .i64 ev.number, .int .i64 ev.flag, .string ev.name, .string ev.text, .string ev.layout, .string ev.visible, .bool ev.zoom] := by rw [← h4]; rfl
  have HV : Hid (EvAt (w.alloc (.cells ev.vals 28)) w.heap.size ev) := EvAt.new w ev
  have hq := eqEv ev { Ev.zero 4 with text := ev.text }
  have hv2 : ({ Ev.zero 4 with text := ev.text } : Ev).vals = #[.int .i64 4, .int .i64 0, .int .i64 0, .int .i64 0, .int .i64 0, .int .i64 0, .int .i64 0, .int .i64 0, .int .i64 0, .string ⟨#[]⟩, .string ev.text, .string ⟨#[]⟩, .string ⟨#[]⟩, .bool false] := rfl
  rw [hv, hv2] at hq
  rw [hv] at HV
  by_cases hb : ({ Ev.zero 4 with text := ev.text } : Ev) = ev
  · rw [e1 hb, hv]
    have hq2 : evEq ev { Ev.zero 4 with text := ev.text } = true := (evEq_iff _ _).2 hb.symm
    rw [hq2] at hq
    clear hb hq2 e1 e2 hv hv2 hf h4
    go_enter Tryz.func14, Tryz.ntmps14
    go_wp2_with (go_at_call 29; refine (HCn.out _).mono ?_; rintro e w1 ⟨rfl, hb1⟩)
    all_goals go_ret2
    all_goals exact ⟨rfl, below_step (below1 _ _) hb1⟩
  · rw [e2 hb, hv]
    have hq2 : evEq ev { Ev.zero 4 with text := ev.text } = false := Bool.eq_false_iff.2 fun h => hb ((evEq_iff _ _).1 h).symm
    rw [hq2] at hq
    clear hb hq2 e1 e2 hv hv2 hf h4
    go_enter Tryz.func14, Tryz.ntmps14
    go_wp2
    all_goals go_ret2
    all_goals exact ⟨rfl, below1 _ _⟩

theorem refEncode_any (ev : Ev) (hf : ev.Fits) (w : World) : Calls Tryz.prog 14 #[.agg ev.vals] w (EncPost (encS ev) w) := by
  by_cases h4 : ev.kind = 4
  · exact refEnc_four ev hf h4 w
  · exact refEnc_other ev hf h4 w

end Go.Proofs.YtlgkdnmhoboinaaGreatDoor
