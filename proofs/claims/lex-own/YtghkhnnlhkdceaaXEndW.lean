/-
  Lines of commands: a word ends, a command ends: the walks.
-/
import Derived.Test.YtghkhnnlhkdceaaXEnd
namespace Go.Proofs.Ytghkhnnlhkdceaa
open Go.RowKit
set_option linter.unusedVariables false
set_option maxRecDepth 100000

/-- Behind an append of a word: the row is longer, nothing else has turned. -/
theorem RdC.word {w0 w1 w2 : World} {b : Nat} {s : ByteArray} {p : Nat} {cmd : List (List UInt8)} {cmds : List (List (List UInt8))} {vc vcs v2 : Value} {vs : List Value} {Bc : Nat} {l : List UInt8} {cs : Array Value} (h : RdC w0 w1 b s p cmd cmds vc vcs vs Bc) (hb : w1.heap[b]? = some (.cells cs 40 (0, 0))) (ho : w2.ownsRow Bc 9 1 v2 (cmd.length + 1) (cmd.map strV ++ [strV l])) (hg : (w1.alloc (.cells #[strV l] 9)).grownBy w2 vc.ownBlock) :
    RdC w0 w2 b s p (cmd ++ [l]) cmds v2 vcs vs Bc ∧ w2.heap[b]? = some (.cells cs 40 (0, 0)) := by
  have hB : But vc.ownBlock.toList w1 w2 := But.grown ((But.refl _ w1).alloc _) hg fun k hk => .inl (by rw [hk]; simp)
  have hty : ∀ g, vc.ownBlock = some g → ∃ cur, w1.heap[g]? = some (Obj.cells cur 9 (0, 0)) := fun g hg => by
    rcases h.cmd.2 with ⟨e, _⟩ | ⟨g', cap, cur, e, _, hg', _⟩
    · rw [e] at hg; cases hg
    · rw [e] at hg
      cases hg
      exact ⟨cur, hg'⟩
  have hne : ∀ g cs' t, w1.heap[g]? = some (Obj.cells cs' t (0, 0)) → t ≠ 9 → w2.heap[g]? = w1.heap[g]? := fun g cs' t h1 h2 => hB.block g (lt_block h1) fun hm => by
    obtain ⟨cur, hc⟩ := hty g (by simpa using hm)
    exact h2 (same_ty h1 hc)
  refine ⟨⟨?_, h.lo, Nat.le_trans h.hi hB.size, row24_keep h.row fun g cur _ hg2 => hne g cur _ hg2 (by decide), h.rows.keep fun g cur hlt hg2 => hB.block g (lt_block hg2) fun hm => ?_, h.at_, hB.under h.below h.below.size fun k hk => ?_, h.blk⟩, (hne b cs _ hb (by decide)).trans hb⟩
  · show w2.ownsRow Bc 9 1 v2 (cmd ++ [l]).length ((cmd ++ [l]).map strV)
    rw [List.length_append, List.map_append]
    exact ho
  · have h1 : vc.ownBlock = some g := by simpa using hm
    have := (World.ownsRow.lt h.cmd g h1).1
    omega
  · have h1 : vc.ownBlock = some k := by simpa using hk
    have := (World.ownsRow.lt h.cmd k h1).1
    have := h.lo
    omega

set_option maxHeartbeats 4000000 in
theorem endWord_any {w0 w : World} {b : Nat} {s : ByteArray} {p : Nat} {l : List UInt8} {cmd : List (List UInt8)} {cmds : List (List (List UInt8))} {n : Nat} (h : Rd w0 w b s p l cmd cmds n) (hn : n ≤ 100000) (hc : cmd.length ≤ 100000) :
    Calls Try.prog 17 #[.pointer (some ⟨b, 0, none⟩)] w fun e w' => e = .returned (.tuple #[]) ∧ Rd w0 w' b s p [] (cmd ++ [l]) cmds (n + 1) := by
  obtain ⟨ad, buf, vc, vcs, vs, Bc, hP⟩ := h
  have HS : Hid (∀ X, Below w.heap.size w X → Calls Try.prog 22 #[.pointer (some ⟨b, 2, none⟩)] X fun e w' => e = .returned (strV l) ∧ RdC w0 w' b s p cmd cmds vc vcs vs Bc ∧ w'.heap[b]? = some (.cells #[.string s, .int .i64 p, ad, buf, vc, vcs, .int .i64 n] 40 (0, 0))) := fun X hX => by
    have hP2 := hP.same hX
    refine (string_in hP2.bld hP2.emp).mono ?_
    rintro e w' ⟨rfl, h1, h2⟩
    refine ⟨rfl, hP2.rest.keep h2 (fun g hg => hP2.bld.own.base g (by simpa using hg)) (fun g cur hg => ?_), h1⟩
    have hob : buf.ownBlock = some g := by simpa using hg
    rcases hP2.bld.own.2 with ⟨e, _⟩ | ⟨g', cap, cur', e, _, hg', _⟩
    · rw [e] at hob; cases hob
    · rw [e] at hob
      cases hob
      exact not_ty hg' (by decide) (by decide) cur
  have c4 : w.cell? ⟨b, 4, none⟩ = some vc := cell_at hP.bld.blk 4
  obtain ⟨va, vn, vk, hvc⟩ : ∃ x y z, vc = .slice x y z := by
    rcases hP.cmd.2 with ⟨e, _⟩ | ⟨g', cap, cur, e, _⟩
    · exact ⟨_, _, _, e⟩
    · exact ⟨_, _, _, e⟩
  subst hvc
  have hw : IntKind.i64.wrap ((n : Int) + 1) = ((n + 1 : Nat) : Int) := by rw [IntKind.wrap_i64]; omega
  clear hP
  unfold strV at HS
  go_enter Try.func17, Try.ntmps17
  go_wp2
  go_region_law (first
    | (refine step_append_one w1 rfl (.tmp 6) (.tmp 11) 29 9 rfl (.string .empty) 16 Try.underlying29 infoS rfl (by decide) Bc (.slice va vn vk) cmd.length (cmd.map strV) (.string (str l)) rfl (by simp [Act.eval]) H1.out.cmd (by simp [Act.eval]) hlen H1.out.hi ?_; intro v2 w2 h2 h3; obtain ⟨a2, n2, k2, rfl⟩ : ∃ x y z, v2 = .slice x y z := (by
        rcases h2.2 with ⟨e, _⟩ | ⟨g', cap, cur, e, _⟩
        · exact ⟨_, _, _, e⟩
        · exact ⟨_, _, _, e⟩); obtain ⟨hC2, hb2⟩ := H1.out.word HB1.out h2 h3; have HC2 : Hid (RdC w0 w2 b s p (cmd ++ [l]) cmds (.slice a2 n2 k2) vcs vs Bc) := hC2; have HB2 : Hid (w2.heap[b]? = some (.cells #[.string s, .int .i64 p, ad, buf, .slice va vn vk, vcs, .int .i64 n] 40 (0, 0))) := hb2; have d4 : w2.cell? ⟨b, 4, none⟩ = some (.slice va vn vk) := cell_at hb2 4; have f4 : w2.frozen? ⟨b, 4, none⟩ = false := free_at hb2 4; clear h2 h3 hC2 hb2)
    | (go_simp; go_at_call 22; refine (HS.out _ (by first | exact (Below.refl _ _).drew | exact belowN (Below.refl _ _) _)).mono ?_; rintro e w1 ⟨rfl, hC1, hb1⟩; have H1 : Hid (RdC w0 w1 b s p cmd cmds (.slice va vn vk) vcs vs Bc) := hC1; have HB1 : Hid (w1.heap[b]? = some (.cells #[.string s, .int .i64 p, ad, buf, .slice va vn vk, vcs, .int .i64 n] 40 (0, 0))) := hb1; have e4 : w1.cell? ⟨b, 4, none⟩ = some (.slice va vn vk) := cell_at hb1 4; have e5 : (w1.alloc (.cells #[.string (str l)] 9)).cell? ⟨b, 4, none⟩ = some (.slice va vn vk) := (cell_at ((Below.heap_alloc _ _ _ (lt_block hb1)).trans hb1) 4); have hlen : cmd.length ≤ 16777216 := (by omega); clear hC1 hb1))
  all_goals (
    have hb3 : (w2.setCell ⟨b, 4, none⟩ (.slice a2 n2 k2)).heap[b]? = some (.cells #[.string s, .int .i64 p, ad, buf, .slice a2 n2 k2, vcs, .int .i64 n] 40 (0, 0)) := set_at HB2.out 4 _
    have hC3 := HC2.out.setb HB2.out 4 (.slice a2 n2 k2)
    obtain ⟨w3, hw3⟩ : ∃ x, w2.setCell ⟨b, 4, none⟩ (.slice a2 n2 k2) = x := ⟨_, rfl⟩
    rw [hw3] at hb3 hC3 ⊢
    have HRs : Hid (Calls Try.prog 23 #[.pointer (some ⟨b, 2, none⟩)] w3 fun e w' => e = .returned (.tuple #[]) ∧ w' = (w3.setCell ⟨b, 2, none⟩ (.pointer none)).setCell ⟨b, 3, none⟩ (.slice none 0 0)) := reset_at hb3 (by simp)
    have hb4 : (w3.setCell ⟨b, 2, none⟩ (.pointer none)).heap[b]? = some (.cells #[.string s, .int .i64 p, .pointer none, buf, .slice a2 n2 k2, vcs, .int .i64 n] 40 (0, 0)) := set_at hb3 2 _
    have hC4 := hC3.setb hb3 2 (.pointer none)
    have hb5 : ((w3.setCell ⟨b, 2, none⟩ (.pointer none)).setCell ⟨b, 3, none⟩ (.slice none 0 0)).heap[b]? = some (.cells #[.string s, .int .i64 p, .pointer none, .slice none 0 0, .slice a2 n2 k2, vcs, .int .i64 n] 40 (0, 0)) := set_at hb4 3 _
    have hC5 := hC4.setb hb4 3 (.slice none 0 0)
    obtain ⟨w5, hw5⟩ : ∃ x, (w3.setCell ⟨b, 2, none⟩ (.pointer none)).setCell ⟨b, 3, none⟩ (.slice none 0 0) = x := ⟨_, rfl⟩
    rw [hw5] at hb5 hC5 HRs
    have HF : Hid (Rd w0 (w5.setCell ⟨b, 6, none⟩ (.int .i64 ((n + 1 : Nat) : Int))) b s p [] (cmd ++ [l]) cmds (n + 1)) := rd_of (ad := .pointer none) (hC5.setb hb5 6 _) (.inl rfl) (set_at hb5 6 _)
    have c6 : w5.cell? ⟨b, 6, none⟩ = some (.int .i64 n) := cell_at hb5 6
    have f6 : w5.frozen? ⟨b, 6, none⟩ = false := free_at hb5 6
    clear hb3 hb4 hb5 hC3 hC4 hC5 hw3 hw5 d4 f4 HB2 HC2 H1 HB1 e4 e5 HS c4
    go_wp2_with fail
    refine HRs.out.mono ?_
    rintro e w6 ⟨rfl, rfl⟩
    go_wp2
    go_end0
    exact ⟨rfl, HF.out⟩)

end Go.Proofs.Ytghkhnnlhkdceaa
