/-
  Lines of commands: Commands in the program.
-/
import Derived.Test.YtghkhnnlhkdceaaXReadM
namespace Go.Proofs.Ytghkhnnlhkdceaa
open Go.RowKit
set_option linter.unusedVariables false
set_option maxRecDepth 100000

/-- What a line is read as: the commands, the place, the error. -/
def cmdsF (l : List UInt8) : List (List (List UInt8)) × Nat × Nat := if 8192 < l.length then ([], 0, 2) else match lineF l [] [] with
  | .inl f => ([], l.length - f.length, 90)
  | .inr cs => if 16 < cs.length ∨ 64 < wcount cs then ([], 0, 91) else (cs, 0, 0)
/-- Commands that a call has made. -/
def CmdsAt (w : World) (B : Nat) (v : Value) (cs : List (List (List UInt8))) : Prop := ∃ vs, w.ownsRow B 29 1 v cs.length vs ∧ Rows2 w B vs cs w.heap.size
theorem cmdsAt_nil (w : World) (B : Nat) (h : B ≤ w.heap.size) : CmdsAt w B (.slice none 0 0) [] := ⟨[], World.ownsRow_nil _ _ _ _, .nil _ h⟩
def CmdA (w : World) (r : List (List (List UInt8)) × Nat × Nat) (e : Ending) (w' : World) : Prop := ∃ v, e = .returned (.tuple #[v, .int .i64 (r.2.1 : Int), .int .i64 (r.2.2 : Int)]) ∧ CmdsAt w' w.heap.size v r.1 ∧ Below w.heap.size w w'

set_option maxHeartbeats 2000000 in
theorem commands_any (s : ByteArray) (w : World) (hsz : s.size ≤ 140737488355328) : Calls Try.prog 5 #[.string s] w (CmdA w (cmdsF s.data.toList)) := by
  have hsl : s.data.toList.length = s.size := size_data s
  by_cases h8 : 8192 < s.size
  · have HR : Hid (cmdsF s.data.toList = ([], 0, 2)) := by show _ = _; unfold cmdsF; rw [if_pos (by rw [hsl]; exact h8)]
    rw [HR.out]
    have d8 : decide ((8192 : Int) < (s.size : Int)) = true := decide_eq_true (by omega)
    clear hsl
    go_enter Try.func5, Try.ntmps5
    go_wp2
    exact bodyPost_ret (v := .tuple #[.slice none 0 0, .int .i64 0, .int .i64 2]) (by simp [results, Try.results5, go_sem]) rfl ⟨_, rfl, cmdsAt_nil _ _ (Nat.le_refl _), Below.refl _ _⟩
  · have d8 : decide ((8192 : Int) < (s.size : Int)) = false := decide_eq_false (by omega)
    obtain ⟨W, hW⟩ : ∃ x, w.alloc (.cells #[.string s, .int .i64 0, .pointer none, .slice none 0 0, .slice none 0 0, .slice none 0 0, .int .i64 0] 40) = x := ⟨_, rfl⟩
    have hbW : W.heap[w.heap.size]? = some (.cells #[.string s, .int .i64 0, .pointer none, .slice none 0 0, .slice none 0 0, .slice none 0 0, .int .i64 0] 40 (0, 0)) := by rw [← hW]; exact new_at _ _
    have hBW : Below w.heap.size w W := by rw [← hW]; exact (Below.refl _ _).alloc (Nat.le_refl _) _
    have hRd : Rd w W w.heap.size s 0 [] [] [] 0 := rd_of (ad := .pointer none) (vs := []) (Bc := w.heap.size) ⟨World.ownsRow_nil _ _ _ _, Nat.le_refl _, hBW.size, World.ownsRow_nil _ _ _ _, .nil _ (Nat.le_refl _), Nat.zero_le _, hBW, Nat.le_refl _⟩ (.inl rfl) hbW
    have HW : Hid (w.alloc (.cells #[.string s, .int .i64 0, .pointer none, .slice none 0 0, .slice none 0 0, .slice none 0 0, .int .i64 0] 40) = W) := hW
    cases hl : lineF s.data.toList [] [] with
    | inl f =>
      have HC : Hid (cmdsF s.data.toList = ([], s.size - f.length, 90)) := by show _ = _; unfold cmdsF; rw [if_neg (by rw [hsl]; exact h8), hl, hsl]
      rw [HC.out]
      have HRe : Hid (Calls Try.prog 10 #[.pointer (some ⟨w.heap.size, 0, none⟩)] W fun e w' => e = .returned (.tuple #[.int .i64 ((s.size - f.length : Nat) : Int), .bool false]) ∧ Below w.heap.size w w') := read_any hRd (by omega) (.inl f) hl
      obtain ⟨pl, hpl⟩ : ∃ x, s.size - f.length = x := ⟨_, rfl⟩
      rw [hpl] at HRe ⊢
      clear hl hRd hbW hBW hW hsl hpl HC
      go_enter Try.func5, Try.ntmps5
      go_upto_region 4 with fail
      rw [HW.out]
      go_wp2_with fail
      refine HRe.out.mono ?_
      rintro e w1 ⟨rfl, hb1⟩
      go_wp2
      exact bodyPost_ret (v := .tuple #[.slice none 0 0, .int .i64 (pl : Int), .int .i64 90]) (by simp [results, Try.results5, go_sem]) rfl ⟨_, rfl, cmdsAt_nil _ _ hb1.size, hb1⟩
    | inr cs =>
      have HRe : Hid (Calls Try.prog 10 #[.pointer (some ⟨w.heap.size, 0, none⟩)] W fun e w' => e = .returned (.tuple #[.int .i64 0, .bool true]) ∧ ∃ q n, Rd w w' w.heap.size s q [] [] cs n ∧ n = wcount cs) := read_any hRd (by omega) (.inr cs) hl
      have HC : Hid (cmdsF s.data.toList = if 16 < cs.length ∨ 64 < wcount cs then ([], 0, 91) else (cs, 0, 0)) := by show _ = _; unfold cmdsF; rw [if_neg (by rw [hsl]; exact h8), hl]
      rw [HC.out]
      obtain ⟨RR, hRR⟩ : ∃ x, (if 16 < cs.length ∨ 64 < wcount cs then (([] : List (List (List UInt8))), 0, 91) else (cs, 0, 0)) = x := ⟨_, rfl⟩
      have HRR : Hid ((if 16 < cs.length ∨ 64 < wcount cs then (([] : List (List (List UInt8))), 0, 91) else (cs, 0, 0)) = RR) := hRR
      rw [hRR]
      clear hl hRd hbW hBW hW hsl HC hRR
      go_enter Try.func5, Try.ntmps5
      go_upto_region 4 with fail
      rw [HW.out]
      go_wp2_with fail
      refine HRe.out.mono ?_
      rintro e w1 ⟨rfl, q, n, ⟨ad, buf, vc, vcs, vs, Bc, hP⟩, hnw⟩
      obtain ⟨va, vk, hvcs⟩ : ∃ x z, vcs = .slice x cs.length z := by
        rcases hP.row.2 with ⟨e, h0⟩ | ⟨g', cap, cur, e, _⟩
        · exact ⟨none, 0, by rw [e, h0]⟩
        · exact ⟨_, _, e⟩
      subst hvcs
      have c5 : w1.cell? ⟨w.heap.size, 5, none⟩ = some (.slice va cs.length vk) := cell_at hP.bld.blk 5
      have c6 : w1.cell? ⟨w.heap.size, 6, none⟩ = some (.int .i64 n) := cell_at hP.bld.blk 6
      have HA : Hid (CmdsAt w1 w.heap.size (.slice va cs.length vk) cs) := ⟨vs, hP.row, hP.rows.up hP.hi⟩
      have HB : Hid (Below w.heap.size w w1) := hP.below
      have HN : Hid (n = wcount cs) := hnw
      obtain ⟨N, hN⟩ : ∃ N, cs.length = N := ⟨_, rfl⟩
      have HNl : Hid (cs.length = N) := hN
      rw [hN] at HA c5
      clear hP hnw HRe
      by_cases hbad : 16 < N ∨ 64 < n
      · have HF : Hid (RR = ([], 0, 91)) := by
          show _ = _
          rw [← HRR.out, if_pos (by rw [HNl.out, ← HN.out]; exact hbad)]
        clear hN
        by_cases h16 : 16 < N
        · have d16 : decide ((16 : Int) < (N : Int)) = true := decide_eq_true (by omega)
          go_wp2
          all_goals exact bodyPost_ret (v := .tuple #[.slice none 0 0, .int .i64 0, .int .i64 91]) (by simp [results, Try.results5, go_sem]) rfl (by rw [HF.out]; exact ⟨_, rfl, cmdsAt_nil _ _ HB.out.size, HB.out⟩)
        · have d16 : decide ((16 : Int) < (N : Int)) = false := decide_eq_false (by omega)
          have d64 : decide ((64 : Int) < (n : Int)) = true := decide_eq_true (by omega)
          go_wp2
          all_goals exact bodyPost_ret (v := .tuple #[.slice none 0 0, .int .i64 0, .int .i64 91]) (by simp [results, Try.results5, go_sem]) rfl (by rw [HF.out]; exact ⟨_, rfl, cmdsAt_nil _ _ HB.out.size, HB.out⟩)
      · have HF : Hid (RR = (cs, 0, 0)) := by
          show _ = _
          rw [← HRR.out, if_neg (by rw [HNl.out, ← HN.out]; exact hbad)]
        have d16 : decide ((16 : Int) < (N : Int)) = false := decide_eq_false (by omega)
        have d64 : decide ((64 : Int) < (n : Int)) = false := decide_eq_false (by omega)
        clear hN
        go_wp2
        all_goals exact bodyPost_ret (v := .tuple #[.slice va N vk, .int .i64 0, .int .i64 0]) (by simp [results, Try.results5, go_sem]) rfl (by rw [HF.out]; exact ⟨_, rfl, HA.out, HB.out⟩)

end Go.Proofs.Ytghkhnnlhkdceaa
