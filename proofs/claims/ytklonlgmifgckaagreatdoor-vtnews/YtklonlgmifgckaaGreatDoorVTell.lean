/-
  What a screen tells of itself.
-/
import Derived.Test.YtklonlgmifgckaaGreatDoorVMade
import Derived.Test.YtklonlgmifgckaaGreatDoorVPicB
import Derived.Test.YtklonlgmifgckaaGreatDoorVReadB
import Derived.Laws.BytesString
namespace Go.Proofs.YtklonlgmifgckaaGreatDoor
open Go.RowKit
set_option linter.unusedVariables false
set_option maxRecDepth 100000

theorem bells_any {w : World} {b : Nat} {s : Sc} (h : ScAt w b s) : Calls Tryz.prog 15 #[.pointer (some ⟨b, 0, none⟩)] w fun r w' => r = .returned (.int .i64 s.bells) ∧ w = w' := by
  have c := h.c45
  clear h
  go_enter Tryz.func15, Tryz.ntmps15
  go_wp2_with fail
  go_ret
  exact ⟨rfl, rfl⟩
theorem history_none {w : World} {b : Nat} {s : Sc} (h : ScAt w b s) {ad : Option Addr} {n cap : Nat} (hp : s.past = .slice ad n cap) : Calls Tryz.prog 16 #[.pointer (some ⟨b, 0, none⟩)] w fun r w' => r = .returned (.int .i64 (n : Int)) ∧ w = w' := by
  have c := h.c39
  rw [hp] at c
  clear h hp
  go_enter Tryz.func16, Tryz.ntmps16
  go_wp2_with fail
  go_ret
  exact ⟨rfl, rfl⟩
theorem app_any {w : World} {b : Nat} {s : Sc} (h : ScAt w b s) : Calls Tryz.prog 17 #[.pointer (some ⟨b, 0, none⟩)] w fun r w' => r = .returned (.bool s.app) ∧ w = w' := by
  have c := h.c26
  clear h
  go_enter Tryz.func17, Tryz.ntmps17
  go_wp2_with fail
  go_ret
  exact ⟨rfl, rfl⟩
theorem bracket_any {w : World} {b : Nat} {s : Sc} (h : ScAt w b s) : Calls Tryz.prog 18 #[.pointer (some ⟨b, 0, none⟩)] w fun r w' => r = .returned (.bool s.br) ∧ w = w' := by
  have c := h.c27
  clear h
  go_enter Tryz.func18, Tryz.ntmps18
  go_wp2_with fail
  go_ret
  exact ⟨rfl, rfl⟩
theorem alternate_no {w : World} {b : Nat} {s : Sc} (h : ScAt w b s) (hm : s.main = .pointer none) : Calls Tryz.prog 19 #[.pointer (some ⟨b, 0, none⟩)] w fun r w' => r = .returned (.bool false) ∧ w = w' := by
  have c := h.c37
  rw [hm] at c
  clear h hm
  go_enter Tryz.func19, Tryz.ntmps19
  go_wp2_with fail
  go_ret
  exact ⟨rfl, rfl⟩
set_option maxHeartbeats 1000000 in
theorem answer_none {w : World} {b : Nat} {s : Sc} (h : ScAt w b s) (ha : s.ans = .slice none 0 0) : Calls Tryz.prog 9 #[.pointer (some ⟨b, 0, none⟩)] w fun r w' => r = .returned (.string ⟨#[]⟩) ∧ ScAt w' b s ∧ But [b] w w' := by
  have H := hidK h
  have c := h.c46
  rw [ha] at c
  have f := h.free 46
  have HA := hidK ha
  have hcv : (convert 70 9 (.slice none 0 0)).run Tryz.prog w = .ok (.string ⟨#[]⟩) w := by
    rw [run_convert_bytes_string w _ _ 5 none 0 0 Tryz.underlying70 Tryz.underlying5 Tryz.underlying9]
    rfl
  clear h ha
  go_enter Tryz.func9, Tryz.ntmps9
  go_wp2_with fail
  go_ret
  refine ⟨rfl, .fin (put_at H.out 46 _) (by rw [← HA.out]; rfl), But.one _ _⟩
set_option maxHeartbeats 2000000 in
/-- What a new screen shows. -/
theorem vtBlank_any (a c : Int) (w : World) : Calls Tryz.prog 5 #[.int .i64 a, .int .i64 c] w fun x w' => Below w.heap.size w w' ∧ ((sizB a c = false ∧ x = .returned (.tuple #[.agg pic0, .int .i64 41])) ∨ (sizB a c = true ∧ ∃ v, ∃ nw nh : Nat, a = (nw : Int) ∧ c = (nh : Int) ∧ x = .returned (.tuple #[.agg #[.int .i64 (nw : Int), .int .i64 (nh : Int), v, .int .i64 0, .int .i64 0, .bool false, .string ⟨#[]⟩], .int .i64 0]) ∧ Row w' 49 5 v (nh * nw) (tgsV (List.replicate (nh * nw) ⟨32, 1, 0, 0, 0⟩)) ∧ ∀ g, v.ownBlock = some g → w.heap.size ≤ g)) := by
  obtain ⟨W, hWe⟩ : ∃ W, w.alloc (.cells pic0 30) = W := ⟨_, rfl⟩
  have HBW : Hid (Below w.heap.size w W) := by rw [← hWe]; exact (Below.refl _ _).alloc (Nat.le_refl _) _
  obtain ⟨B, hB⟩ : ∃ B, w.heap.size = B := ⟨_, rfl⟩
  have HBe := hidK hB
  have HZ : Hid (W.heap[B]? = some (.cells pic0 30 (0, 0))) := by rw [← hWe, ← hB]; exact heap_alloc_new w _
  unfold pic0 at hWe
  have HWe := hidK hWe
  have HN : Hid (∀ W, Calls Tryz.prog 10 #[.int .i64 a, .int .i64 c, .int .i64 0] W fun x w' => (sizB a c = false ∧ x = .returned (.tuple #[.pointer none, .int .i64 41]) ∧ w' = W) ∨ (sizB a c = true ∧ ∃ b G T rs, ∃ nw nh : Nat, a = (nw : Int) ∧ c = (nh : Int) ∧ x = .returned (.tuple #[.pointer (some ⟨b, 0, none⟩), .int .i64 0]) ∧ Fresh W w' nw nh 0 b G T rs)) := fun W => (vtNew_any a c 0 W).mono (by
    rintro x w' (⟨h1, h2, h3⟩ | ⟨_, h, _⟩ | ⟨h1, _, _, h2⟩)
    · exact .inl ⟨h1, h2, h3⟩
    · exact absurd h (by decide)
    · exact .inr ⟨h1, h2⟩)
  clear hWe hB
  go_enter Tryz.func5, Tryz.ntmps5
  go_wp2_with fail
  rw [HWe.out, HBe.out]
  refine (HN.out _).mono ?_
  rintro x w1 (⟨h1, rfl, rfl⟩ | ⟨h1, b, G, T, rs, nw, nh, e1, e2, rfl, hf⟩)
  · have hz := HZ.out
    have z0 := cell_atT hz 0
    have z1 := cell_atT hz 1
    have z2 := cell_atT hz 2
    have z3 := cell_atT hz 3
    have z4 := cell_atT hz 4
    have z5 := cell_atT hz 5
    have z6 := cell_atT hz 6
    simp [pic0] at z0 z1 z2 z3 z4 z5 z6
    have f0 := free_atT hz 0
    have f1 := free_atT hz 1
    have f2 := free_atT hz 2
    have f3 := free_atT hz 3
    have f4 := free_atT hz 4
    have f5 := free_atT hz 5
    have f6 := free_atT hz 6
    clear hz
    go_wp2_with fail
    have hB1 := HBe.out
    have hq : ∀ i u X, Below w.heap.size w X → Below w.heap.size w (X.setCell ⟨B, i, none⟩ u) := fun i u X hX => hX.setCell (p := ⟨B, i, none⟩) (by simp only; omega) _
    refine ret_cell2 rfl rfl (cs := pic0) (put_at (put_at (put_at (put_at (put_at (put_at (put_at HZ.out 0 _) 1 _) 2 _) 3 _) 4 _) 5 _) 6 _) Tryz.underlying30 rfl infoPic rfl ⟨?_, .inl ⟨h1, rfl⟩⟩
    exact hq _ _ _ (hq _ _ _ (hq _ _ _ (hq _ _ _ (hq _ _ _ (hq _ _ _ (hq _ _ _ HBW.out))))))
  · obtain ⟨q1, q2, q3, q4, q5, q6, q7, q8⟩ := hf
    have hs := of_decide_eq_true h1
    have hsc : Scn w1 b (newSc nw nh 0 G T) G rs := ⟨q1, q3, by rw [q2]; rfl⟩
    have hall : flatR rs = List.replicate (nh * nw) ⟨32, 1, 0, 0, 0⟩ := by
      rw [← q2]
      clear hsc q1 q2 q3 q5 q6 q7 q8 hs
      induction rs with
      | nil => simp [flatR]
      | cons r rs ih =>
        have h9 : flatR (r :: rs) = r.2 ++ flatR rs := rfl
        rw [h9, ih (fun r hr => q4 r (by simp [hr])), q4 r (by simp), List.replicate_append_replicate, List.length_cons]
        congr 1
        rw [Nat.add_mul]
        omega
    have HP : Hid (Calls Tryz.prog 13 #[.pointer (some ⟨b, 0, none⟩)] w1 fun r w' => ∃ v, r = .returned (.agg (picC (newSc nw nh 0 G T) v)) ∧ Below w1.heap.size w1 w' ∧ Row w' 49 5 v (nh * nw) (tgsV (List.replicate (nh * nw) ⟨32, 1, 0, 0, 0⟩)) ∧ ∀ g, v.ownBlock = some g → w1.heap.size ≤ g) := by
      have h := picture_any hsc (nw := nw) rfl (by rw [q2]; rfl) (by omega) (by omega) (fun r hr => by rw [q4 r hr]; simp) (fun r hr x hx => by rw [q4 r hr] at hx; rw [List.eq_of_mem_replicate hx]; exact .inl ⟨rfl, rfl⟩) rfl
      rw [hall, List.length_replicate] at h
      exact h
    have HQ := hidK (And.intro q5 (And.intro h1 (And.intro e1 e2)))
    clear q1 q2 q3 q4 q5 q6 q7 q8 hs hsc hall h1 e1 e2 HN
    go_wp2_with fail
    refine HP.out.mono ?_
    rintro x w2 ⟨v, rfl, hb2, hr, hy⟩
    have HB2 : Hid (Below W.heap.size W w2) := HQ.out.1.trans (hb2.mono HQ.out.1.size)
    have hz2 : w2.heap[B]? = some (.cells pic0 30 (0, 0)) := (HB2.out.block _ (lt_of_block HZ.out)).trans HZ.out
    have HZ2 := hidK hz2
    obtain ⟨ad, cap, hv, _, _, _, _⟩ := hr.shape
    have HR := hidK (And.intro hr hy)
    have HB12 := hidK hb2
    subst hv
    have z0 := cell_atT hz2 0
    have z1 := cell_atT hz2 1
    have z2 := cell_atT hz2 2
    have z3 := cell_atT hz2 3
    have z4 := cell_atT hz2 4
    have z5 := cell_atT hz2 5
    have z6 := cell_atT hz2 6
    simp [pic0] at z0 z1 z2 z3 z4 z5 z6
    have f0 := free_atT hz2 0
    have f1 := free_atT hz2 1
    have f2 := free_atT hz2 2
    have f3 := free_atT hz2 3
    have f4 := free_atT hz2 4
    have f5 := free_atT hz2 5
    have f6 := free_atT hz2 6
    clear hz2 hr hy hb2
    unfold picC newSc cu0
    go_wp2_with fail
    have hB1 := HBe.out
    have hw2 : Below w.heap.size w w2 := HBW.out.trans (HB2.out.mono HBW.out.size)
    have hq : ∀ i u X, Below w.heap.size w X → Below w.heap.size w (X.setCell ⟨B, i, none⟩ u) := fun i u X hX => hX.setCell (p := ⟨B, i, none⟩) (by simp only; omega) _
    refine ret_cell2 rfl rfl (cs := #[.int .i64 (nw : Int), .int .i64 (nh : Int), .slice ad (nh * nw) cap, .int .i64 0, .int .i64 0, .bool false, .string ⟨#[]⟩]) (put_at (put_at (put_at (put_at (put_at (put_at (put_at HZ2.out 0 _) 1 _) 2 _) 3 _) 4 _) 5 _) 6 _) Tryz.underlying30 rfl infoPic rfl ⟨?_, .inr ⟨HQ.out.2.1, _, nw, nh, HQ.out.2.2.1, HQ.out.2.2.2, rfl, ?_, fun g hg => ?_⟩⟩
    · exact hq _ _ _ (hq _ _ _ (hq _ _ _ (hq _ _ _ (hq _ _ _ (hq _ _ _ (hq _ _ _ hw2))))))
    · refine HR.out.1.keep (fun g hg => ?_)
      have hgB : g ≠ B := fun e => by
        obtain ⟨cur, hc⟩ := HR.out.1.block hg
        rw [e, HZ2.out] at hc
        simp at hc
      exact put_other (put_other (put_other (put_other (put_other (put_other (put_other rfl hgB _ _) hgB _ _) hgB _ _) hgB _ _) hgB _ _) hgB _ _) hgB _ _
    · exact Nat.le_trans (Nat.le_trans HBW.out.size HQ.out.1.size) (HR.out.2 g hg)
end Go.Proofs.YtklonlgmifgckaaGreatDoor
