/-
  Formats: rows of texts of one's own.
-/
import Derived.Test.YtgoofifbifdgoaaGreatDoorQApp
import Derived.Test.YtgoofifbifdgoaaGreatDoorFPass
namespace Go.Proofs.YtgoofifbifdgoaaGreatDoor
open Go.RowKit
set_option linter.unusedVariables false
set_option maxRecDepth 20000

structure Mine (w wr : World) (T : TypeId) (k : Nat) (v : Value) (n : Nat) (xs : List Value) : Prop where
  row : Row wr T k v n xs
  below : Below w.heap.size w wr
  young : ∀ g, v.ownBlock = some g → w.heap.size ≤ g
theorem Mine.nil {w wr : World} {T : TypeId} {k : Nat} (h : Below w.heap.size w wr) : Mine w wr T k (.slice none 0 0) 0 [] := ⟨Row.nil _ _ _, h, fun g hg => by cases hg⟩
theorem Mine.more {w wr w' : World} {T : TypeId} {k : Nat} {v : Value} {n : Nat} {xs : List Value} (h : Mine w wr T k v n xs) (hb : Below wr.heap.size wr w') : Mine w w' T k v n xs := ⟨h.row.below hb, h.below.trans (hb.mono h.below.size), h.young⟩
theorem Mine.grown {w wr X w' : World} {T : TypeId} {k : Nat} {v v' : Value} {n n' : Nat} {xs xs' : List Value} (h : Mine w wr T k v n xs) (hX : Below wr.heap.size wr X) (hr : Row w' T k v' n' xs') (hg : Grown X w' v v' v.ownBlock.toList) : Mine w w' T k v' n' xs' := by
  refine ⟨hr, hg.but.under (h.more hX).below (h.more hX).below.size (fun g hh => h.young g (by simpa using hh)), fun g hh => ?_⟩
  rcases hg.own with e | e
  · exact h.young g (e ▸ hh)
  · rw [e] at hh
    cases hh
    exact (h.more hX).below.size
theorem Mine.cast {w wr : World} {T : TypeId} {k : Nat} {v : Value} {n n' : Nat} {xs xs' : List Value} (h : Mine w wr T k v n xs) (hn : n = n') (hx : xs = xs') : Mine w wr T k v n' xs' := by subst hn hx; exact h


def strsV (ls : List (List UInt8)) : List Value := ls.map fun l => .string (str l)
theorem strs_len (ls : List (List UInt8)) : (strsV ls).length = ls.length := List.length_map _
theorem strs_snoc (ls : List (List UInt8)) (l : List UInt8) : strsV (ls ++ [l]) = strsV ls ++ [.string (str l)] := by simp [strsV]
theorem infoStr : (Tryz.prog.info? 9).map (fun i => (i.zero, i.size, i.bytes)) = some (some (.string ⟨#[]⟩), 1, 16) := by kernel_rfl
theorem underStrs : Tryz.prog.underlying 130 = some (.slice 9) := by kernel_rfl
/-- A list of texts of one's own. -/
abbrev Texts (w w' : World) (v : Value) (ls : List (List UInt8)) : Prop := Mine w w' 9 1 v ls.length (strsV ls)
theorem Mine.at {w W : World} {v : Value} {ls : List (List UInt8)} (h : Texts w W v ls) : ∃ ad cap, v = .slice ad ls.length cap ∧ ∀ W', Below W.heap.size W W' → ∀ (i : Nat) (l : List UInt8), ls[i]? = some l → ∃ g o, ad = some ⟨g, o, none⟩ ∧ W'.cell? ⟨g, o + i, none⟩ = some (.string (str l)) := by
  obtain ⟨ad, cap, e, h1, h2, h3, h4⟩ := h.row.shape
  refine ⟨ad, cap, e, fun W' hW i l hl => ?_⟩
  have hi := (List.getElem?_eq_some_iff.1 hl).1
  cases ad with
  | none =>
    have := (h3 rfl).1
    omega
  | some a =>
    obtain ⟨g, o, rfl, _, h5, h6⟩ := h4 a rfl
    exact ⟨g, o, rfl, (h6 W' (hW.block g h5)).1 i _ (by unfold strsV; rw [List.getElem?_map, hl]; rfl)⟩

end Go.Proofs.YtgoofifbifdgoaaGreatDoor
