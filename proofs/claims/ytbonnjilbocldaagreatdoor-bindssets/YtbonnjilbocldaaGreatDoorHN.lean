/-
  Binds: what must come whatever the steps are.
  Binds: one step (the law's does).
-/
import Derived.Test.YtbonnjilbocldaaGreatDoorHL
import Derived.Test.YtbonnjilbocldaaGreatDoorBSam
namespace Go.Proofs.YtbonnjilbocldaaGreatDoor
open Go.RowKit
set_option linter.unusedVariables false
set_option maxRecDepth 100000

theorem SeeE.shape {w : World} {v : Value} {l : List Ent} (h : SeeE w v l) : ∃ a c, v = .slice a l.length c := by
  obtain ⟨a, c, h, _⟩ := h
  exact ⟨a, c, h⟩
set_option maxHeartbeats 4000000 in
theorem sure_any {w : World} (hT : Tabs w) (hw : 5 < w.heap.size) : Calls Tryz.prog 24 #[] w fun r w' => r = .returned (.bool true) ∧ Below w.heap.size w w' := by
  have HN := new_any hT hw
  obtain ⟨B, hB⟩ : ∃ B, w.heap.size = B := ⟨_, rfl⟩
  have HBs : Hid (∀ X Y, Below B w X → Below X.heap.size X Y → Below B w Y) := fun X Y h k => by
    subst hB
    exact below_step h k
  rw [hB] at HN ⊢
  clear hT hw
  go_enter Tryz.func24, Tryz.ntmps24
  go_wp2_with fail
  refine HN.mono ?_
  rintro e W1 ⟨rfl, ht1, hb1⟩
  have HT1 := hidK ht1
  have HB1 := hidK hb1
  have HL1 := list_any ht1 is_D0.ok prefixS (by decide)
  clear ht1 hb1 HN
  go_wp2_with fail
  refine HL1.mono ?_
  rintro e W2 ⟨v2, l2, rfl, hl2, hs2, hb2⟩
  obtain ⟨a2, c2, rfl⟩ := hs2.shape
  rw [len_40 hl2]
  have HT2 := hidK (HT1.out.more hb2)
  have HB2 := hidK (HBs.out _ _ HB1.out hb2)
  have HL2 := list_any HT2.out is_D0.ok copyS (by decide)
  clear hl2 hs2 hb2 HL1
  go_wp2_with fail
  refine HL2.mono ?_
  rintro e W3 ⟨v3, l3, rfl, hl3, hs3, hb3⟩
  obtain ⟨a3, c3, rfl⟩ := hs3.shape
  rw [len_20 hl3]
  have HT3 := hidK (HT2.out.more hb3)
  have HB3 := hidK (HBs.out _ _ HB2.out hb3)
  clear hl3 hs3 hb3 HL2
  obtain ⟨W4, hW4⟩ : ∃ W, W3.alloc (.cells #[.int .i64 98, .int .i64 4] 23) = W := ⟨_, rfl⟩
  obtain ⟨q4, hq4⟩ : ∃ q, W3.heap.size = q := ⟨_, rfl⟩
  have ha4 : W4.heap[q4]? = some (.cells #[.int .i64 98, .int .i64 4] 23 (0, 0)) := by rw [← hW4, ← hq4]; exact heap_alloc_new _ _
  have hb4 : Below W3.heap.size W3 W4 := by rw [← hW4]; exact (Below.refl _ _).alloc (Nat.le_refl _) _
  have HA4 := hidK ha4
  have HT4 := hidK (HT3.out.more hb4)
  have HB4 := hidK (HBs.out _ _ HB3.out hb4)
  have HP4 := press_any HT4.out ⟨#[]⟩ 0 98 4 98 4 1 2 (by decide) (by decide) (by decide) (by decide) (by decide)
  rw [sure_rest] at HP4
  have c40 := cell_at ha4 0
  have c41 := cell_at ha4 1
  clear ha4 hb4
  go_wp2_with fail
  refine HP4.mono ?_
  rintro e W5 ⟨rfl, hb5⟩
  have ha5 := (hb5.block q4 (lt_block HA4.out)).trans HA4.out
  have HT5 := HT4.out.more hb5
  have HB5 := HBs.out _ _ HB4.out hb5
  clear hW4 hq4 c40 c41 HP4
  obtain ⟨q6, hq6⟩ : ∃ q, W5.heap.size = q := ⟨_, rfl⟩
  obtain ⟨W6, hW6⟩ : ∃ W, (W5.alloc (.cells #[.string prefixS, .int .i64 0] 36)).setCell ⟨q6, 1, none⟩ (.int .i64 0) = W := ⟨_, rfl⟩
  have ha6 : W6.heap[q6]? = some (.cells #[.string prefixS, .int .i64 0] 36 (0, 0)) := by rw [← hW6, ← hq6]; exact put_at (heap_alloc_new _ _) 1 _
  have hb6 : Below W5.heap.size W5 W6 := by rw [← hW6, ← hq6]; exact ((Below.refl _ _).alloc (Nat.le_refl _) _).setCell (Nat.le_refl _) _
  have HA6 := hidK ha6
  have HT6 := hidK (HT5.more hb6)
  have HB6 := hidK (HBs.out _ _ HB5 hb6)
  have HQ6 : Hid (B ≤ q6) := by show _ ≤ _; rw [← hq6, ← hB]; have := HB5.size; omega
  have HP6 := press_any HT6.out prefixS 0 98 4 99 0 1 2 (by decide) (by decide) (by decide) (by decide) (by decide)
  rw [sure_new] at HP6
  have c40 : W6.cell? ⟨q4, 0, none⟩ = some (.int .i64 98) := cell_at ((hb6.block q4 (lt_block ha5)).trans ha5) 0
  have c41 : W6.cell? ⟨q4, 1, none⟩ = some (.int .i64 4) := cell_at ((hb6.block q4 (lt_block ha5)).trans ha5) 1
  have c60 : W6.cell? ⟨q6, 0, none⟩ = some (.string prefixS) := cell_at ha6 0
  have c61 : W6.cell? ⟨q6, 1, none⟩ = some (.int .i64 0) := cell_at ha6 1
  clear ha6 hb6 ha5 HT5 HB5
  unfold prefixS walkV at *
  go_wp2_with fail
  refine HP6.mono ?_
  rintro e W7 ⟨rfl, hb7⟩
  have ha7 := (hb7.block q6 (lt_block HA6.out)).trans HA6.out
  have HB7 := hidK (HBs.out _ _ HB6.out hb7)
  clear hW6 hq6 c40 c41 c60 c61 HP6 hb7
  obtain ⟨W8, hW8⟩ : ∃ W, (W7.setCell ⟨q6, 0, none⟩ (.string ⟨#[]⟩)).setCell ⟨q6, 1, none⟩ (.int .i64 0) = W := ⟨_, rfl⟩
  have ha8 : W8.heap[q6]? = some (.cells #[.string ⟨#[]⟩, .int .i64 0] 36 (0, 0)) := by rw [← hW8]; exact put_at (put_at ha7 0 _) 1 _
  have HB8 : Hid (Below B w W8) := by
    show Below B w W8
    rw [← hW8]
    exact (HB7.out.setCell HQ6.out _).setCell HQ6.out _
  have c80 : W8.cell? ⟨q6, 0, none⟩ = some (.string ⟨#[]⟩) := cell_at ha8 0
  have c81 : W8.cell? ⟨q6, 1, none⟩ = some (.int .i64 0) := cell_at ha8 1
  have c70 := cell_at ha7 0
  have c71 := cell_at ha7 1
  have f70 := free_at ha7 0
  have f71 := free_at ha7 1
  clear ha8 ha7
  unfold restV lineNW at *
  unfold walkV at *
  go_wp2_with fail
  go_ret
  exact ⟨rfl, HB8.out⟩
end Go.Proofs.YtbonnjilbocldaaGreatDoor

namespace Go.Proofs.YtbonnjilbocldaaGreatDoor
open Go.RowKit
set_option linter.unusedVariables false
set_option maxRecDepth 100000

/-- A step. -/
structure Stp where
  kd : Int
  tk : Int
  e : Ent
def Stp.wf (s : Stp) : Prop := s.e.wf ∧ s.e.ln.size ≤ 140737488355328 ∧ (Lit.int .i64 s.kd).wf = true ∧ (Lit.int .i64 s.tk).wf = true
def encS (s : Stp) : List Value := [.int .i64 s.kd, .int .i64 s.tk, .string s.e.t, .int .i64 s.e.c, .int .i64 s.e.m, .bool s.e.rp, .string s.e.ln]
def bndOk (D : DataW Unit) (e : Ent) : Bool := !(decide (wordB e.t = false ∨ validB e.c e.m = false ∨ 8192 < e.ln.size ∨ (Maps.has D e.k = false ∧ 200 ≤ Maps.size D)))
def tookB (D : DataW Unit) (s : Stp) : Bool := if s.kd = 1 then bndOk D s.e else if s.kd = 2 then Maps.has D s.e.k else true
def doD (D : DataW Unit) (s : Stp) : DataW Unit := if s.kd = 1 then bndD D s.e.t s.e.c s.e.m s.e.rp s.e.ln else if s.kd = 2 then (if Maps.has D s.e.k then D.del s.e.k else D) else D
theorem do_ok {D : DataW Unit} (h : Ok D) (s : Stp) (hw : s.wf) : Ok (doD D s) := by
  unfold doD
  split
  · exact ok_bnd h _ _ _ _ _ hw.1
  · split
    · split
      · exact ok_del h _
      · exact h
    · exact h
theorem bind_took {w : World} {d b n : Nat} {D : DataW Unit} (h : Tb w d b n D) (hn : n ≤ 1000000) (e : Ent) (hw : e.wf) (hl : e.ln.size ≤ 140737488355328) :
    Calls Tryz.prog 11 #[.pointer (some ⟨d, 0, none⟩), .agg #[.string e.t, .int .i64 e.c, .int .i64 e.m, .bool e.rp, .string e.ln]] w fun x w' => (∃ k, x = .returned (.int .i64 k) ∧ (k == 0) = bndOk D e) ∧ Tn w w' d b (n + 1) (bndD D e.t e.c e.m e.rp e.ln) := by
  refine (bind_any h hn e.t e.ln e.c e.m e.rp hw.1 hl hw.2.1 hw.2.2).mono fun x w' hp => ?_
  have hk : slotK e.t.data.toList e.c e.m = e.k := rfl
  unfold bndP at hp
  unfold bndD bndOk
  rw [hk] at hp ⊢
  by_cases h1 : wordB e.t = false
  · rw [if_pos h1] at hp
    rw [if_pos (.inl h1)]
    exact ⟨⟨_, hp.1, by simp [h1]⟩, Tn.of h hp.2⟩
  · rw [if_neg h1] at hp
    by_cases h2 : validB e.c e.m = false
    · rw [if_pos h2] at hp
      rw [if_pos (.inr (.inl h2))]
      exact ⟨⟨_, hp.1, by simp [h2]⟩, Tn.of h hp.2⟩
    · rw [if_neg h2] at hp
      by_cases h3 : 8192 < e.ln.size
      · rw [if_pos h3] at hp
        rw [if_pos (.inr (.inr (.inl h3)))]
        exact ⟨⟨_, hp.1, by simp [h3]⟩, Tn.of h hp.2⟩
      · rw [if_neg h3] at hp
        by_cases h4 : Maps.has D e.k = false ∧ 200 ≤ Maps.size D
        · rw [if_pos h4] at hp
          rw [if_pos (.inr (.inr (.inr h4)))]
          exact ⟨⟨_, hp.1, by simp [h4]⟩, Tn.of h hp.2⟩
        · rw [if_neg h4] at hp
          have hno : ¬ (wordB e.t = false ∨ validB e.c e.m = false ∨ 8192 < e.ln.size ∨ Maps.has D e.k = false ∧ 200 ≤ Maps.size D) := by
            rintro (q | q | q | q)
            · exact h1 q
            · exact h2 q
            · exact h3 q
            · exact h4 q
          rw [if_neg hno]
          exact ⟨⟨_, hp.1, by rw [decide_eq_false hno]; rfl⟩, hp.2⟩
theorem unbind_took {w : World} {d b n : Nat} {D : DataW Unit} (h : Tb w d b n D) (e : Ent) (hw : e.wf) :
    Calls Tryz.prog 13 #[.pointer (some ⟨d, 0, none⟩), .string e.t, .agg #[.int .i64 e.c, .int .i64 e.m]] w fun x w' => (∃ k, x = .returned (.int .i64 k) ∧ (k == 0) = Maps.has D e.k) ∧ Tn w w' d b (n + 1) (if Maps.has D e.k then D.del e.k else D) := by
  refine (unbind_any h e.t e.c e.m hw.1 hw.2.1 hw.2.2).mono fun x w' hp => ?_
  have hk : slotK e.t.data.toList e.c e.m = e.k := rfl
  unfold unbP at hp
  rw [hk] at hp
  cases hh : Maps.has D e.k
  · rw [hh] at hp
    exact ⟨⟨_, hp.1, rfl⟩, Tn.of h hp.2⟩
  · rw [hh] at hp
    exact ⟨⟨_, hp.1, rfl⟩, ⟨hp.2.tb.mono (Nat.le_succ _), hp.2.but⟩⟩
end Go.Proofs.YtbonnjilbocldaaGreatDoor
