/-
  Lines of commands: a command ends: the walk.
-/
import Derived.Test.YtghkhnnlhkdceaaXEndW
namespace Go.Proofs.Ytghkhnnlhkdceaa
open Go.RowKit
set_option linter.unusedVariables false
set_option maxRecDepth 100000

theorem RdC.command {w0 w1 w2 : World} {b : Nat} {s : ByteArray} {p : Nat} {cmd : List (List UInt8)} {cmds : List (List (List UInt8))} {vc vcs v2 : Value} {vs : List Value} {Bc : Nat} {cs : Array Value} (h : RdC w0 w1 b s p cmd cmds vc vcs vs Bc) (hb : w1.heap[b]? = some (.cells cs 40 (0, 0))) (ho : w2.ownsRow w0.heap.size 29 1 v2 (cmds.length + 1) (vs ++ [vc])) (hg : (w1.alloc (.cells #[vc] 29)).grownBy w2 vcs.ownBlock) :
    RdC w0 w2 b s p [] (cmds ++ [cmd]) (.slice none 0 0) v2 (vs ++ [vc]) w2.heap.size ∧ w2.heap[b]? = some (.cells cs 40 (0, 0)) := by
  have hB : But vcs.ownBlock.toList w1 w2 := But.grown ((But.refl _ w1).alloc _) hg fun k hk => .inl (by rw [hk]; simp)
  have hty : ∀ g, vcs.ownBlock = some g → ∃ cur, w1.heap[g]? = some (Obj.cells cur 29 (0, 0)) := fun g hg => by
    rcases h.row.2 with ⟨e, _⟩ | ⟨g', cap, cur, e, _, hg', _⟩
    · rw [e] at hg; cases hg
    · rw [e] at hg
      cases hg
      exact ⟨cur, hg'⟩
  have hne : ∀ g cs' t, w1.heap[g]? = some (Obj.cells cs' t (0, 0)) → t ≠ 29 → w2.heap[g]? = w1.heap[g]? := fun g cs' t h1 h2 => hB.block g (lt_block h1) fun hm => by
    obtain ⟨cur, hc⟩ := hty g (by simpa using hm)
    exact h2 (same_ty h1 hc)
  have hbel : Below w0.heap.size w0 w2 := hB.under h.below h.below.size fun k hk => (World.ownsRow.lt h.row k (by simpa using hk)).1
  refine ⟨⟨World.ownsRow_nil _ _ _ _, hbel.size, Nat.le_refl _, ?_, ?_, h.at_, hbel, h.blk⟩, (hne b cs _ hb (by decide)).trans hb⟩
  · rw [List.length_append]
    exact ho
  · refine .snoc vs cmds Bc _ vc cmd (h.rows.keep fun g cur _ hg2 => hne g cur _ hg2 (by decide)) (h.cmd.keep fun g cur _ hg2 => hne g cur _ hg2 (by decide)) (fun g hg2 => ?_) (Nat.le_trans h.hi hB.size)
    exact Nat.lt_of_lt_of_le (h.cmd.lt g hg2) hB.size

def moreC (cmd : List (List UInt8)) (cmds : List (List (List UInt8))) : List (List (List UInt8)) := if cmd = [] then cmds else cmds ++ [cmd]

set_option maxHeartbeats 4000000 in
theorem endCommand_any {w0 w : World} {b : Nat} {s : ByteArray} {p : Nat} {cmd : List (List UInt8)} {cmds : List (List (List UInt8))} {n : Nat} (h : Rd w0 w b s p [] cmd cmds n) (hc : cmds.length ≤ 100000) (hc2 : cmd.length ≤ 100000) :
    Calls Try.prog 15 #[.pointer (some ⟨b, 0, none⟩)] w fun e w' => e = .returned (.tuple #[]) ∧ Rd w0 w' b s p [] [] (moreC cmd cmds) n := by
  obtain ⟨ad, buf, vc, vcs, vs, Bc, hP⟩ := h
  have hbuf := hP.emp rfl
  subst hbuf
  have had : ad = .pointer none ∨ ad = .pointer (some ⟨b, 2, none⟩) := by
    rcases hP.bld.adr with h | h
    · exact .inl (by simpa using h)
    · exact .inr (by simpa using h)
  obtain ⟨va, vk, hvc⟩ : ∃ x z, vc = .slice x cmd.length z := by
    rcases hP.cmd.2 with ⟨e, h0⟩ | ⟨g', cap, cur, e, _⟩
    · exact ⟨none, 0, by rw [e, h0]⟩
    · exact ⟨_, _, e⟩
  subst hvc
  obtain ⟨ca, cn, ck, hvcs⟩ : ∃ x y z, vcs = .slice x y z := by
    rcases hP.row.2 with ⟨e, _⟩ | ⟨g', cap, cur, e, _⟩
    · exact ⟨_, _, _, e⟩
    · exact ⟨_, _, _, e⟩
  subst hvcs
  have hC := hP.rest
  have hb := hP.bld.blk
  have c4 : w.cell? ⟨b, 4, none⟩ = some (.slice va cmd.length vk) := cell_at hb 4
  by_cases h0 : cmd = []
  · have HM : Hid (moreC cmd cmds = cmds) := by show _ = _; unfold moreC; rw [if_pos h0]
    rw [HM.out]
    have HF : Hid (Rd w0 (w.setCell ⟨b, 4, none⟩ (.slice none 0 0)) b s p [] [] cmds n) := by
      have hC2 : RdC w0 w b s p [] cmds (.slice none 0 0) (.slice ca cn ck) vs Bc := ⟨World.ownsRow_nil _ _ _ _, hC.lo, hC.hi, hC.row, hC.rows, hC.at_, hC.below, hC.blk⟩
      exact rd_of (hC2.setb hb 4 _) had (set_at hb 4 _)
    have f4 : w.frozen? ⟨b, 4, none⟩ = false := free_at hb 4
    have hl : cmd.length = 0 := by rw [h0]; rfl
    rw [hl] at c4
    clear hP hC hb h0 hl
    go_enter Try.func15, Try.ntmps15
    go_wp2
    go_end0
    exact ⟨rfl, HF.out⟩
  · have HM : Hid (moreC cmd cmds = cmds ++ [cmd]) := by show _ = _; unfold moreC; rw [if_neg h0]
    rw [HM.out]
    have hl : 0 < cmd.length := List.length_pos_iff.2 h0
    have c5 : w.cell? ⟨b, 5, none⟩ = some (.slice ca cn ck) := cell_at hb 5
    have H1 : Hid (RdC w0 w.drew b s p cmd cmds (.slice va cmd.length vk) (.slice ca cn ck) vs Bc) := hC.keep (S := []) (But.refl _ _).drew (fun g hg => by cases hg) (fun g cur hg => by cases hg)
    have HB1 : Hid (w.drew.heap[b]? = some (.cells #[.string s, .int .i64 p, ad, .slice none 0 0, .slice va cmd.length vk, .slice ca cn ck, .int .i64 n] 40 (0, 0))) := hb
    have g5 : (w.alloc (.cells #[.slice va cmd.length vk] 29)).cell? ⟨b, 5, none⟩ = some (.slice ca cn ck) := cell_at ((Below.heap_alloc _ _ _ (lt_block hb)).trans hb) 5
    have g5' : (w.drew.alloc (.cells #[.slice va cmd.length vk] 29)).cell? ⟨b, 5, none⟩ = some (.slice ca cn ck) := g5
    obtain ⟨N, hN⟩ : ∃ N, cmd.length = N := ⟨_, rfl⟩
    rw [hN] at H1 HB1 g5 g5' c4 hl
    have HN : Hid (cmd.length = N) := hN
    have hlen : cmds.length ≤ 16777216 := by omega
    have dl : decide ((0 : Int) < (N : Int)) = true := decide_eq_true (by omega)
    clear hP hC hb h0 hN
    go_enter Try.func15, Try.ntmps15
    go_wp2_with fail
    go_region_law (first
      | (refine step_append_one w.drew rfl (.tmp 12) (.tmp 17) 22 29 rfl (.slice none 0 0) 24 Try.underlying22 infoSS rfl (by decide) w0.heap.size (.slice ca cn ck) cmds.length vs (.slice va N vk) rfl (by simp [Act.eval]) H1.out.row (by simp [Act.eval]) hlen H1.out.below.size ?_; intro v2 w2 h2 h3; obtain ⟨a2, n2, k2, rfl⟩ : ∃ x y z, v2 = .slice x y z := (by
          rcases h2.2 with ⟨e, _⟩ | ⟨g', cap, cur, e, _⟩
          · exact ⟨_, _, _, e⟩
          · exact ⟨_, _, _, e⟩); obtain ⟨hC2, hb2⟩ := H1.out.command HB1.out h2 h3; have HC2 : Hid (RdC w0 w2 b s p [] (cmds ++ [cmd]) (.slice none 0 0) (.slice a2 n2 k2) (vs ++ [.slice va N vk]) w2.heap.size) := hC2; have HB2 : Hid (w2.heap[b]? = some (.cells #[.string s, .int .i64 p, ad, .slice none 0 0, .slice va N vk, .slice ca cn ck, .int .i64 n] 40 (0, 0))) := hb2; have d5 : w2.cell? ⟨b, 5, none⟩ = some (.slice ca cn ck) := cell_at hb2 5; have f5 : w2.frozen? ⟨b, 5, none⟩ = false := free_at hb2 5; clear h2 h3 hC2 hb2)
      | (go_simp; fail))
    all_goals (
      have hb3 : (w2.setCell ⟨b, 5, none⟩ (.slice a2 n2 k2)).heap[b]? = some (.cells #[.string s, .int .i64 p, ad, .slice none 0 0, .slice va N vk, .slice a2 n2 k2, .int .i64 n] 40 (0, 0)) := set_at HB2.out 5 _
      have hC3 := HC2.out.setb HB2.out 5 (.slice a2 n2 k2)
      obtain ⟨w3, hw3⟩ : ∃ x, w2.setCell ⟨b, 5, none⟩ (.slice a2 n2 k2) = x := ⟨_, rfl⟩
      rw [hw3] at hb3 hC3 ⊢
      have HF : Hid (Rd w0 (w3.setCell ⟨b, 4, none⟩ (.slice none 0 0)) b s p [] [] (cmds ++ [cmd]) n) := rd_of (hC3.setb hb3 4 _) had (set_at hb3 4 _)
      have c4' : w3.cell? ⟨b, 4, none⟩ = some (.slice va N vk) := cell_at hb3 4
      have f4' : w3.frozen? ⟨b, 4, none⟩ = false := free_at hb3 4
      clear hb3 hC3 hw3 d5 f5 HB2 HC2 H1 HB1 c4 c5 g5 g5'
      go_wp2
      go_end0
      exact ⟨rfl, HF.out⟩)

end Go.Proofs.Ytghkhnnlhkdceaa
