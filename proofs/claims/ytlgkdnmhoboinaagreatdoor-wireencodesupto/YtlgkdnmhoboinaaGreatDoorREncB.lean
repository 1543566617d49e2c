/-
  The document's Encode.
-/
import Derived.Test.YtlgkdnmhoboinaaGreatDoorREncA
import Derived.Deep.RegionHeld3
namespace Go.Proofs.YtlgkdnmhoboinaaGreatDoor
open Go.RowKit
set_option linter.unusedVariables false
set_option maxRecDepth 20000

/-- What Encode has. -/
structure EncSt (w wr : World) (ev : Ev) (b : Nat) : Prop where
  e : EvAt wr w.heap.size ev
  t : TabAt wr b
  lt : b < wr.heap.size
  b : Below w.heap.size w wr

theorem EncSt.below {w wr wr' : World} {ev : Ev} {b : Nat} (h : EncSt w wr ev b) (hb : Below wr.heap.size wr wr') : EncSt w wr' ev b := ⟨h.e.below hb h.e.lt, h.t.below hb h.lt, Nat.lt_of_lt_of_le h.lt hb.size, below_step h.b hb⟩
theorem EncSt.drew {w wr : World} {ev : Ev} {b : Nat} (h : EncSt w wr ev b) : EncSt w wr.drew ev b := ⟨h.e, h.t, h.lt, h.b.drew⟩
set_option maxHeartbeats 1000000 in
theorem refEnc_other (ev : Ev) (hf : ev.Fits) (h4 : ev.kind ≠ 4) (w : World) : Calls Tryz.prog 14 #[.agg ev.vals] w (EncPost (encS ev) w) := by
  have hk4 : (ev.kind == 4) = false := by simpa using h4
  have HRw : Hid (∀ (n : Nat), n < 23 → (kAt n : Int) = ev.kind → ∀ W, Calls Tryz.prog 31 #[.agg ev.vals, .agg #[.int .i64 (kAt n : Nat), .string (str (wordOf (kAt n))), .string (partsOf (chs (kAt n)))]] W (EncPost (encS ev) W)) := fun n hn hk W => by
    obtain ⟨a1, a2, a3⟩ := kAt_in hn
    exact row_any (kAt n) a1 a2 a3 ev hk.symm hf W
  have HOut : Hid ((∀ j, j < 23 → (kAt j : Int) ≠ ev.kind) → encS ev = none) := fun h => encS_out ev (kinds_all ev.kind h h4)
  have HV : Hid (EvAt (w.alloc (.cells ev.vals 28)) w.heap.size ev) := EvAt.new w ev
  clear h4 hf
  obtain ⟨o, ho⟩ : ∃ o, encS ev = o := ⟨_, rfl⟩
  rw [ho] at HRw HOut ⊢
  clear ho
  unfold Ev.vals at HV HRw ⊢
  go_enter Tryz.func14, Tryz.ntmps14
  go_wp2_with fail
  refine (rows_any _).mono ?_
  rintro e w1 ⟨rfl, ht1, hl1, hb1⟩
  have hV1 := HV.out.below hb1 HV.out.lt
  obtain ⟨b, hb⟩ : ∃ b, (w.alloc (.cells #[.int .i64 ev.kind, .int .i64 ev.session, .int .i64 ev.window, .int .i64 ev.pane, .int .i64 ev.index, .int .i64 ev.offset, .int .i64 ev.tick, .int .i64 ev.number, .int .i64 ev.flag, .string ev.name, .string ev.text, .string ev.layout, .string ev.visible, .bool ev.zoom] 28)).heap.size = b := ⟨_, rfl⟩
  have HS : Hid (EncSt w w1 ev b) := ⟨hV1, hb ▸ ht1, hb ▸ hl1, below_step (below1 _ _) hb1⟩
  rw [hb]
  clear hb ht1 hl1 hb1 hV1 HV
  obtain ⟨q0, q1, q2, q3, q4, q5, q6, q7, q8, q9, q10, q11, q12, q13⟩ := HS.out.e.cells
  go_wp2
  go_loopw [5] (fun i wr => ∃ n : Nat, n ≤ 23 ∧ i = .int .i64 n ∧ Hid (∀ j, j < n → (kAt j : Int) ≠ ev.kind) ∧ EncSt w wr ev b) (fun i _ => 23 - (intOf i).toNat)
  case atStart => exact ⟨0, Nat.zero_le _, rfl, (fun j h => absurd h (Nat.not_lt_zero j)), HS.out⟩
  case round =>
    obtain ⟨n, hn, rfl, HN, hst⟩ := hrel
    have HS2 : Hid (EncSt w wr ev b) := hst
    clear hst HS q0 q1 q2 q3 q4 q5 q6 q7 q8 q9 q10 q11 q12 q13
    obtain ⟨q0, q1, q2, q3, q4, q5, q6, q7, q8, q9, q10, q11, q12, q13⟩ := HS2.out.e.cells
    by_cases hlt : n < 23
    · obtain ⟨t0, t1, t2⟩ := HS2.out.t n hlt
      have HRn := HRw.out n hlt
      obtain ⟨kn, hkn⟩ : ∃ k, kAt n = k := ⟨_, rfl⟩
      obtain ⟨wd, hwd⟩ : ∃ x, str (wordOf (kAt n)) = x := ⟨_, rfl⟩
      obtain ⟨pt, hpt⟩ : ∃ x, partsOf (chs (kAt n)) = x := ⟨_, rfl⟩
      have HKn : Hid (kAt n = kn) := hkn
      have HWd : Hid (str (wordOf (kAt n)) = wd) := hwd
      have HPd : Hid (partsOf (chs (kAt n)) = pt) := hpt
      rw [hwd] at t1 HRn
      rw [hpt] at t2 HRn
      rw [hkn] at t0 HRn
      clear hwd hpt hkn
      by_cases he : ((kn : Int) == ev.kind) = true
      · have HRk : Hid (∀ W, Calls Tryz.prog 31 #[.agg #[.int .i64 ev.kind, .int .i64 ev.session, .int .i64 ev.window, .int .i64 ev.pane, .int .i64 ev.index, .int .i64 ev.offset, .int .i64 ev.tick, .int .i64 ev.number, .int .i64 ev.flag, .string ev.name, .string ev.text, .string ev.layout, .string ev.visible, .bool ev.zoom], .agg #[.int .i64 (kn : Nat), .string wd, .string pt]] W (EncPost o W)) := HRn (eq_of_beq he)
        clear HRn
        cases o with
        | none =>
          have HRe : Hid (∀ W, Calls Tryz.prog 31 #[.agg #[.int .i64 ev.kind, .int .i64 ev.session, .int .i64 ev.window, .int .i64 ev.pane, .int .i64 ev.index, .int .i64 ev.offset, .int .i64 ev.tick, .int .i64 ev.number, .int .i64 ev.flag, .string ev.name, .string ev.text, .string ev.layout, .string ev.visible, .bool ev.zoom], .agg #[.int .i64 (kn : Nat), .string wd, .string pt]] W fun e w' => e = .returned (.tuple #[.string ⟨#[]⟩, .int .i64 30]) ∧ Below W.heap.size W w') := fun W => HRk.out W
          have HD : Hid (EncSt w wr.drew ev b) := HS2.out.drew
          have HDD : Hid (EncSt w wr.drew.drew ev b) := HS2.out.drew.drew
          clear HRk
          go_wp2_with fail
          go_region_held3 (fun W' => W'.cell? ⟨b, n * 3, none⟩ = some (.int .i64 (kn : Nat)) ∧ W'.cell? ⟨w.heap.size, 0, none⟩ = some (.int .i64 ev.kind)) (go_keep) (fail)
          go_wp2_with fail
          go_region_held3 (fun W' => W'.cell? ⟨w.heap.size, 0, none⟩ = some (.int .i64 ev.kind) ∧ W'.cell? ⟨w.heap.size, 1, none⟩ = some (.int .i64 ev.session) ∧ W'.cell? ⟨w.heap.size, 2, none⟩ = some (.int .i64 ev.window) ∧ W'.cell? ⟨w.heap.size, 3, none⟩ = some (.int .i64 ev.pane) ∧ W'.cell? ⟨w.heap.size, 4, none⟩ = some (.int .i64 ev.index) ∧ W'.cell? ⟨w.heap.size, 5, none⟩ = some (.int .i64 ev.offset) ∧ W'.cell? ⟨w.heap.size, 6, none⟩ = some (.int .i64 ev.tick) ∧ W'.cell? ⟨w.heap.size, 7, none⟩ = some (.int .i64 ev.number) ∧ W'.cell? ⟨w.heap.size, 8, none⟩ = some (.int .i64 ev.flag) ∧ W'.cell? ⟨w.heap.size, 9, none⟩ = some (.string ev.name) ∧ W'.cell? ⟨w.heap.size, 10, none⟩ = some (.string ev.text) ∧ W'.cell? ⟨w.heap.size, 11, none⟩ = some (.string ev.layout) ∧ W'.cell? ⟨w.heap.size, 12, none⟩ = some (.string ev.visible) ∧ W'.cell? ⟨w.heap.size, 13, none⟩ = some (.bool ev.zoom) ∧ W'.cell? ⟨b, n * 3, none⟩ = some (.int .i64 (kn : Nat)) ∧ W'.cell? ⟨b, n * 3 + 1, none⟩ = some (.string wd) ∧ W'.cell? ⟨b, n * 3 + 2, none⟩ = some (.string pt)) (go_keep) ((go_at_call 31; refine (HRe.out _).mono ?_; rintro e w2 ⟨rfl, hb2⟩; have HE2 : Hid (EncSt w w2 ev b) := HDD.out.below hb2; obtain ⟨y0, y1, y2, y3, y4, y5, y6, y7, y8, y9, y10, y11, y12, y13⟩ := HE2.out.e.cells; obtain ⟨z0, z1, z2⟩ := HE2.out.t n hlt; rw [HKn.out] at z0; rw [HWd.out] at z1; rw [HPd.out] at z2; clear hb2))
          all_goals go_wp2
          all_goals go_ret2
          all_goals exact ⟨rfl, HE2.out.b⟩
        | some l =>
          have HRe : Hid (∀ W, Calls Tryz.prog 31 #[.agg #[.int .i64 ev.kind, .int .i64 ev.session, .int .i64 ev.window, .int .i64 ev.pane, .int .i64 ev.index, .int .i64 ev.offset, .int .i64 ev.tick, .int .i64 ev.number, .int .i64 ev.flag, .string ev.name, .string ev.text, .string ev.layout, .string ev.visible, .bool ev.zoom], .agg #[.int .i64 (kn : Nat), .string wd, .string pt]] W fun e w' => e = .returned (.tuple #[.string (str l), .int .i64 0]) ∧ Below W.heap.size W w') := fun W => HRk.out W
          have HD : Hid (EncSt w wr.drew ev b) := HS2.out.drew
          have HDD : Hid (EncSt w wr.drew.drew ev b) := HS2.out.drew.drew
          clear HRk
          go_wp2_with fail
          go_region_held3 (fun W' => W'.cell? ⟨b, n * 3, none⟩ = some (.int .i64 (kn : Nat)) ∧ W'.cell? ⟨w.heap.size, 0, none⟩ = some (.int .i64 ev.kind)) (go_keep) (fail)
          go_wp2_with fail
          go_region_held3 (fun W' => W'.cell? ⟨w.heap.size, 0, none⟩ = some (.int .i64 ev.kind) ∧ W'.cell? ⟨w.heap.size, 1, none⟩ = some (.int .i64 ev.session) ∧ W'.cell? ⟨w.heap.size, 2, none⟩ = some (.int .i64 ev.window) ∧ W'.cell? ⟨w.heap.size, 3, none⟩ = some (.int .i64 ev.pane) ∧ W'.cell? ⟨w.heap.size, 4, none⟩ = some (.int .i64 ev.index) ∧ W'.cell? ⟨w.heap.size, 5, none⟩ = some (.int .i64 ev.offset) ∧ W'.cell? ⟨w.heap.size, 6, none⟩ = some (.int .i64 ev.tick) ∧ W'.cell? ⟨w.heap.size, 7, none⟩ = some (.int .i64 ev.number) ∧ W'.cell? ⟨w.heap.size, 8, none⟩ = some (.int .i64 ev.flag) ∧ W'.cell? ⟨w.heap.size, 9, none⟩ = some (.string ev.name) ∧ W'.cell? ⟨w.heap.size, 10, none⟩ = some (.string ev.text) ∧ W'.cell? ⟨w.heap.size, 11, none⟩ = some (.string ev.layout) ∧ W'.cell? ⟨w.heap.size, 12, none⟩ = some (.string ev.visible) ∧ W'.cell? ⟨w.heap.size, 13, none⟩ = some (.bool ev.zoom) ∧ W'.cell? ⟨b, n * 3, none⟩ = some (.int .i64 (kn : Nat)) ∧ W'.cell? ⟨b, n * 3 + 1, none⟩ = some (.string wd) ∧ W'.cell? ⟨b, n * 3 + 2, none⟩ = some (.string pt)) (go_keep) ((go_at_call 31; refine (HRe.out _).mono ?_; rintro e w2 ⟨rfl, hb2⟩; have HE2 : Hid (EncSt w w2 ev b) := HDD.out.below hb2; obtain ⟨y0, y1, y2, y3, y4, y5, y6, y7, y8, y9, y10, y11, y12, y13⟩ := HE2.out.e.cells; obtain ⟨z0, z1, z2⟩ := HE2.out.t n hlt; rw [HKn.out] at z0; rw [HWd.out] at z1; rw [HPd.out] at z2; clear hb2))
          all_goals go_wp2
          all_goals go_ret2
          all_goals exact ⟨rfl, HE2.out.b⟩
      · have he' : ((kn : Int) == ev.kind) = false := by simpa using he
        have HN' : Hid (∀ j, j < n + 1 → (kAt j : Int) ≠ ev.kind) := fun j hj => by
          by_cases hjn : j = n
          · subst hjn
            rw [HKn.out]
            exact fun h => by rw [h] at he'; simp at he'
          · exact HN.out j (by omega)
        clear he HRn HN
        go_wp2_with fail
        go_region_held3 (fun W' => W'.cell? ⟨b, n * 3, none⟩ = some (.int .i64 (kn : Nat)) ∧ W'.cell? ⟨w.heap.size, 0, none⟩ = some (.int .i64 ev.kind)) (go_keep) (fail)
        go_wp2
        go_roundw
        case rel => exact ⟨n + 1, by omega, by go_num, HN', HS2.out.drew⟩
        case measure => simp [intOf]; omega
    · have HO : Hid (o = none) := HOut.out (fun j hj => HN.out j (by omega))
      go_wp2
      go_ret2
      rw [HO.out]
      exact ⟨rfl, HS2.out.b⟩

end Go.Proofs.YtlgkdnmhoboinaaGreatDoor
