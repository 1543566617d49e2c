/-
  The walk of WirePieces.
-/
import Derived.Test.YtlgkdnmhoboinaaGreatDoorWSame
import Derived.WalkKit
import Derived.LoopTactic
import Derived.OwnWalk
import Derived.Laws.AppendOwnNone
namespace Go.Proofs.YtlgkdnmhoboinaaGreatDoor
open Go.RowKit
set_option linter.unusedVariables false

theorem same_short (v v' : Value) (hv : v = .slice none 0 0 ∨ ∃ g cap, v = .slice (some ⟨g, 0, none⟩) 0 cap) (hv' : v' = .slice none 0 0 ∨ ∃ g cap, v' = .slice (some ⟨g, 0, none⟩) 0 cap) (w : World) :
    Calls Tryz.prog 13 #[v, v'] w fun e w' => e = .returned (.bool true) ∧ Below w.heap.size w w' := by
  rcases hv with rfl | ⟨g, cap, rfl⟩ <;> rcases hv' with rfl | ⟨g', cap', rfl⟩
  all_goals
    go_enter Tryz.func13, Tryz.ntmps13
    go_wp2
    go_loopw [5] (fun v wr => v = .int .i64 0 ∧ w = wr) (fun _ _ => 0)
    case atStart => exact ⟨rfl, rfl⟩
    case round =>
      obtain ⟨rfl, rfl⟩ := hrel
      go_wp2
      go_ret
      exact ⟨rfl, Below.refl _ _⟩

theorem same_any (l : List Ev) (hm : l.length ≤ 16777216) (B B' : Nat) (v v' : Value) (w : World) (h1 : EvOwns w B v l) (h2 : EvOwns w B' v' l) :
    Calls Tryz.prog 13 #[v, v'] w fun e w' => e = .returned (.bool true) ∧ Below w.heap.size w w' := by
  by_cases hl : l.length = 0
  · refine same_short v v' ?_ ?_ w
    · rcases h1.shape with ⟨h, _⟩ | ⟨g, cap, h, _⟩
      · exact .inl h
      · exact .inr ⟨g, cap, by rw [h, hl]⟩
    · rcases h2.shape with ⟨h, _⟩ | ⟨g, cap, h, _⟩
      · exact .inl h
      · exact .inr ⟨g, cap, by rw [h, hl]⟩
  · rcases h1.shape with ⟨_, h⟩ | ⟨g, cap, h, _⟩
    · rw [h] at hl; exact absurd rfl hl
    · rcases h2.shape with ⟨_, h'⟩ | ⟨g', cap', h', _⟩
      · rw [h'] at hl; exact absurd rfl hl
      · subst h h'
        exact same_yes l B B' g cap g' cap' (by omega) hm w h1 h2

theorem linesS_rest : ∀ (n : Nat) (l : List UInt8), l.length ≤ n → (linesS l).2.length ≤ l.length
  | n, l, h => by
    by_cases hm : (10 : UInt8) ∈ l
    · have hl := rest10 l hm
      rw [linesS_yes hm]
      cases n with
      | zero => omega
      | succ n =>
        have := linesS_rest n ((l.dropWhile (· != 10)).drop 1) (by omega)
        show (linesS _).2.length ≤ _
        omega
    · rw [linesS_no hm]; exact Nat.le_refl _

theorem evCells_append (a b : List Ev) : evCells (a ++ b) = evCells a ++ evCells b := by unfold evCells; simp
theorem evCells_one (l : List Ev) : ∀ u ∈ evCells l, u.oneCell' = true := by
  intro u hu
  unfold evCells at hu
  obtain ⟨e, _, hu⟩ := List.mem_flatMap.1 hu
  have hu' : u ∈ [Value.int .i64 e.kind, .int .i64 e.session, .int .i64 e.window, .int .i64 e.pane, .int .i64 e.index, .int .i64 e.offset, .int .i64 e.tick, .int .i64 e.number, .int .i64 e.flag, .string e.name, .string e.text, .string e.layout, .string e.visible, .bool e.zoom] := hu
  simp only [List.mem_cons, List.not_mem_nil, or_false] at hu'
  rcases hu' with rfl | rfl | rfl | rfl | rfl | rfl | rfl | rfl | rfl | rfl | rfl | rfl | rfl | rfl <;> rfl

/-- A whole list of events appended to what is owned. -/
theorem wpList_append_evs {ops : Array Oper} {rest : List Oper} {o : Oper} {a : Act} {Q : Exit → Act → World → Prop} (w : World) (hgd : o.guard = none) (s x : Operand)
    (ho : o.op = .call { callee := .builtin .append, args := #[s, x], argTypes := #[22, 22] })
    (B : Nat) (v : Value) (l : List Ev) (hs : a.eval s = v) (hown : EvOwns w B v l) (B' g n cap : Nat) (l' : List Ev) (hn : n = l'.length) (hx : a.eval x = .slice (some ⟨g, 0, none⟩) n cap) (hown' : EvOwns w B' (.slice (some ⟨g, 0, none⟩) n cap) l')
    (hlen : l.length + l'.length ≤ 16777216) (hB : B ≤ w.heap.size)
    (h : ∀ v' w', EvOwns w' B v' (l ++ l') → w.grownBy w' v.ownBlock → wpList Tryz.prog ops Q rest (a.put o.dst v') w') : wpList Tryz.prog ops Q (o :: rest) a w := by
  subst hn
  obtain ⟨i0, hi, hz0, hz1, hz2⟩ := info_parts infoEv
  refine wpList_append_own _ hgd s x 22 ho B 28 i0 (.agg (Ev.zero 0).vals) 14 144 Tryz.underlying22 hi hz0 hz1 hz2 rfl (by decide) v l.length (evCells l) hs hown ⟨g, 0, none⟩ l'.length cap (evCells l') hx (evCells_length l') (World.ownsRow.cells hown' rfl) (evCells_one l') ?_ ?_ hB ?_
  · unfold maxLen; omega
  · omega
  · intro v' w' h2 h3 _
    refine h v' w' ?_ h3
    unfold EvOwns
    rw [evCells_append, List.length_append]
    exact h2

/-- The same, of a list that may be nil. -/
theorem wpList_append_two {ops : Array Oper} {rest : List Oper} {o : Oper} {a : Act} {Q : Exit → Act → World → Prop} (w : World) (hgd : o.guard = none) (s x : Operand)
    (ho : o.op = .call { callee := .builtin .append, args := #[s, x], argTypes := #[22, 22] })
    (B : Nat) (v : Value) (l : List Ev) (hs : a.eval s = v) (hown : EvOwns w B v l) (B' : Nat) (u : Value) (l' : List Ev) (hx : a.eval x = u) (hown' : EvOwns w B' u l')
    (hlen : l.length + l'.length ≤ 16777216) (hB : B ≤ w.heap.size)
    (h : ∀ v' w', EvOwns w' B v' (l ++ l') → w.grownBy w' v.ownBlock → wpList Tryz.prog ops Q rest (a.put o.dst v') w') : wpList Tryz.prog ops Q (o :: rest) a w := by
  rcases hown'.shape with ⟨rfl, rfl⟩ | ⟨g, cap, rfl, _⟩
  · obtain ⟨i0, hi, hz0, hz1, hz2⟩ := info_parts infoEv
    refine wpList_append_own_none hgd s x 22 ho B 28 i0 14 Tryz.underlying22 hi v l.length (evCells l) hs hown hx ?_
    exact h v w (by rw [List.append_nil]; exact hown) ⟨rfl, rfl, rfl, Nat.le_refl _, fun _ _ _ => rfl⟩
  · exact wpList_append_evs w hgd s x ho B v l hs hown B' g _ cap l' rfl hx hown' hlen hB h

theorem EvOwns.grown {w w' : World} {B : Nat} {v : Value} {l : List Ev} {r : Option Nat} (h : EvOwns w B v l) (hg : w.grownBy w' r) (hr : ∀ k, v.ownBlock = some k → r ≠ some k) : EvOwns w' B v l :=
  World.ownsRow.kept h hg (by
    cases hv : v.ownBlock with
    | none => exact .inl rfl
    | some k => exact .inr (fun e => hr k hv e.symm))
theorem EvOwns.base {w : World} {B : Nat} {v : Value} {l : List Ev} (h : EvOwns w B v l) : ∀ k, v.ownBlock = some k → B ≤ k ∧ k < w.heap.size := fun k hk => World.ownsRow.lt h k hk

end Go.Proofs.YtlgkdnmhoboinaaGreatDoor
