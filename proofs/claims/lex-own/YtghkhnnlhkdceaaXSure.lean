/-
  Lines of commands: sure.
-/
import Derived.Test.YtghkhnnlhkdceaaXSame
namespace Go.Proofs.Ytghkhnnlhkdceaa
open Go.RowKit
set_option linter.unusedVariables false
set_option maxRecDepth 100000

theorem see_one {w : World} {g cap : Nat} (c : List (List UInt8)) (cs : Array Value) (hc : cs = (c.map strV).toArray) (h : w.heap[g]? = some (.cells cs 9 (0, 0))) : StrSee w (.slice (some ⟨g, 0, none⟩) c.length cap) c :=
  ⟨_, _, rfl, fun _ => ⟨g, rfl, lt_block h, fun i x hx => by rw [cell_at h, hc]; simp [hx]⟩⟩
theorem see_cmds {w : World} {g cap : Nat} (cs : List (List (List UInt8))) (vs : List Value) (h : w.heap[g]? = some (.cells vs.toArray 29 (0, 0))) (hv : ∀ (i : Nat) c, cs[i]? = some c → ∃ v, vs[i]? = some v ∧ StrSee w v c) : SeeC w (.slice (some ⟨g, 0, none⟩) cs.length cap) cs :=
  ⟨_, _, rfl, fun _ => ⟨g, rfl, lt_block h, fun i c hc => by
    obtain ⟨v, h1, h2⟩ := hv i c hc
    exact ⟨v, by rw [cell_at h]; simpa using h1, h2⟩⟩⟩

def sureL : List (List (List UInt8)) := [[[97], [98, 32, 99]], [[100]]]
theorem sure_line : cmdsF [97, 32, 39, 98, 32, 99, 39, 59, 100] = (sureL, 0, 0) := by
  have hw1 : lineF [97, 32, 39, 98, 32, 99, 39, 59, 100] [] [] = .inr sureL := by
    rw [line_word (by decide) (by decide), lineW_other (by decide) (by decide), lineW_end (by decide), line_blank (by decide), line_word (by decide) (by decide)]
    rw [lineW_piece (a := [98, 32, 99]) (u := [59, 100]) (by decide) (by decide) (by rfl)]
    rw [lineW_end (by decide), line_semi (by decide), line_word (by decide) (by decide), lineW_other (by decide) (by decide), lineW_nil, line_nil]
    rfl
  unfold cmdsF
  rw [if_neg (by decide), hw1]
  rfl

set_option maxHeartbeats 2000000 in
theorem sure_true (w : World) : Calls Try.prog 7 #[] w fun e w' => e = .returned (.bool true) ∧ Below w.heap.size w w' := by
  have HC : Hid (Calls Try.prog 5 #[.string ⟨#[97, 32, 39, 98, 32, 99, 39, 59, 100]⟩] w fun e w' => ∃ v, e = .returned (.tuple #[v, .int .i64 0, .int .i64 0]) ∧ CmdsAt w' w.heap.size v sureL ∧ Below w.heap.size w w') := by
    have h := commands_any ⟨#[97, 32, 39, 98, 32, 99, 39, 59, 100]⟩ w (by decide)
    rw [show (ByteArray.mk #[97, 32, 39, 98, 32, 99, 39, 59, 100]).data.toList = [97, 32, 39, 98, 32, 99, 39, 59, 100] from rfl, sure_line] at h
    exact h
  go_enter Try.func7, Try.ntmps7
  go_wp2_with fail
  refine HC.out.mono ?_
  rintro e w1 ⟨v, rfl, hc, hb⟩
  have HV : Hid (SeeC w1 v sureL) := hc.see
  have HB : Hid (Below w.heap.size w w1) := hb
  clear hc hb HC
  have hX : ∀ (A B C : Array Value), A = #[.string ⟨#[97]⟩, .string ⟨#[98, 32, 99]⟩] → B = #[.string ⟨#[100]⟩] → C = #[.slice (some ⟨w1.heap.size, 0, none⟩) 2 2, .slice (some ⟨w1.heap.size + 1, 0, none⟩) 1 1] → Below w1.heap.size w1 (((w1.alloc (.cells A 9)).alloc (.cells B 9)).alloc (.cells C 29)) ∧ SeeC (((w1.alloc (.cells A 9)).alloc (.cells B 9)).alloc (.cells C 29)) (.slice (some ⟨w1.heap.size + 1 + 1, 0, none⟩) 2 2) sureL := by
    intro A B C hA hB hC
    have b1 : Below w1.heap.size w1 (((w1.alloc (.cells A 9)).alloc (.cells B 9)).alloc (.cells C 29)) := (((Below.refl _ _).alloc (Nat.le_refl _) _).alloc (by simp) _).alloc (by simp; omega) _
    have s1 : (w1.alloc (.cells A 9)).heap.size = w1.heap.size + 1 := by simp
    have s2 : ((w1.alloc (.cells A 9)).alloc (.cells B 9)).heap.size = w1.heap.size + 1 + 1 := by simp
    have p0 : (((w1.alloc (.cells A 9)).alloc (.cells B 9)).alloc (.cells C 29)).heap[w1.heap.size]? = some (.cells A 9 (0, 0)) := (Below.heap_alloc _ _ _ (by omega)).trans ((Below.heap_alloc _ _ _ (by omega)).trans (new_at _ _))
    have p1 : (((w1.alloc (.cells A 9)).alloc (.cells B 9)).alloc (.cells C 29)).heap[w1.heap.size + 1]? = some (.cells B 9 (0, 0)) := by
      have h := new_at (w1.alloc (.cells A 9)) (.cells B 9)
      rw [s1] at h
      exact (Below.heap_alloc _ _ _ (by omega)).trans h
    have p2 : (((w1.alloc (.cells A 9)).alloc (.cells B 9)).alloc (.cells C 29)).heap[w1.heap.size + 1 + 1]? = some (.cells C 29 (0, 0)) := by
      have h := new_at ((w1.alloc (.cells A 9)).alloc (.cells B 9)) (.cells C 29)
      rw [s2] at h
      exact h
    refine ⟨b1, see_cmds sureL [.slice (some ⟨w1.heap.size, 0, none⟩) 2 2, .slice (some ⟨w1.heap.size + 1, 0, none⟩) 1 1] (by rw [p2, hC]) fun i c hc => ?_⟩
    match i, hc with
    | 0, hc =>
      cases hc
      exact ⟨_, rfl, see_one [[97], [98, 32, 99]] A (by rw [hA]; rfl) p0⟩
    | 1, hc =>
      cases hc
      exact ⟨_, rfl, see_one [[100]] B (by rw [hB]; rfl) p1⟩
  obtain ⟨hb1, hs1⟩ := hX _ _ _ rfl rfl rfl
  have HSm := same_true v _ sureL _ (HV.out.below hb1) hs1 ⟨by decide, by decide⟩
  have HSa : Hid (Calls Try.prog 6 #[v, .slice (some ⟨w1.heap.size + 1 + 1, 0, none⟩) 2 2] (((w1.alloc (.cells #[.string ⟨#[97]⟩, .string ⟨#[98, 32, 99]⟩] 9)).alloc (.cells #[.string ⟨#[100]⟩] 9)).alloc (.cells #[.slice (some ⟨w1.heap.size, 0, none⟩) 2 2, .slice (some ⟨w1.heap.size + 1, 0, none⟩) 1 1] 29)) fun e w' => e = .returned (.bool true) ∧ Below w.heap.size w w') := HSm.mono fun e w' h => ⟨h.1, (HB.out.trans (hb1.mono HB.out.size)).trans (h.2.mono (Nat.le_trans HB.out.size hb1.size))⟩
  clear hX hb1 hs1 HSm
  go_wp2_with fail
  refine HSa.out.mono ?_
  rintro e w2 ⟨rfl, hb2⟩
  go_wp2
  go_ret
  exact ⟨rfl, hb2⟩

end Go.Proofs.Ytghkhnnlhkdceaa
