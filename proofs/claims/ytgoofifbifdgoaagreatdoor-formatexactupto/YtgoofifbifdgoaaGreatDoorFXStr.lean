/-
  Lines of commands: (*strings.Builder).String and Reset, wherever the Builder lies.
-/
import Derived.Test.YtgoofifbifdgoaaGreatDoorFXBuild
import Derived.Shelf.RegionOpenPlain
import Derived.Lib.UnsafeStr
namespace Go.Proofs.YtgoofifbifdgoaaGreatDoor
open Go.RowKit
set_option linter.unusedVariables false
set_option maxRecDepth 100000

theorem cellsByte : Tryz.prog.cellsOf 5 = 1 := by kernel_rfl
theorem unsafeString_none (W : World) (q : Option Addr) : (Builtin.unsafeString_ #[106, 3] 9 #[.pointer q, .int .i64 0]).run Tryz.prog W = .ok (.string .empty) W := Lib.run_unsafeString_none W _ _ _ q
theorem But.drew {S : List Nat} {w w' : World} (h : But S w w') : But S w w'.drew := ⟨h.os, h.tape, h.output, h.size, h.block⟩
theorem But.freeze {S : List Nat} {w w' : World} (h : But S w w') {p : Addr} (hp : p.block ∈ S) (n : Nat) : But S w (w'.freeze p n) := by
  unfold World.freeze
  split
  · exact h
  · refine ⟨h.os, h.tape, h.output, ?_, fun k hk hs => ?_⟩
    · show w.heap.size ≤ (w'.heap.modify p.block _).size
      rw [Array.size_modify]
      exact h.size
    · show (w'.heap.modify p.block _)[k]? = _
      rw [Array.getElem?_modify, if_neg (fun e : p.block = k => hs (e ▸ hp))]
      exact h.block k hk hs

set_option maxHeartbeats 1000000 in
theorem string_some {w : World} {B b o : Nat} {T : TypeId} {cs : Array Value} {v : Value} {l : List UInt8} (h : BuilderIn w B b o T cs v l) (h0 : l ≠ []) :
    Calls Tryz.prog 31 #[.pointer (some ⟨b, o, none⟩)] w fun e w' => e = .returned (.string (str l)) ∧ w'.heap[b]? = some (.cells cs T (0, 0)) ∧ But v.ownBlock.toList w w' := by
  have hl0 : l.length ≠ 0 := by simpa using h0
  have hap := h.apart
  rcases h.own.2 with ⟨_, hz⟩ | ⟨g, cap, cur, rfl, hbg, hg, hnc, hcm, hcs, htake⟩
  · exact absurd hz hl0
  have c1 : w.drew.cell? ⟨b, o + 1, none⟩ = some (.slice (some ⟨g, 0, none⟩) l.length cap) := (cell_at (w := w.drew) h.blk (o + 1)).trans h.buf
  have hSD : (Builtin.unsafeSliceData_ #[65] 106 #[.slice (some ⟨g, 0, none⟩) l.length cap]).run Tryz.prog w.drew = .ok (.pointer (some ⟨g, 0, none⟩)) w.drew := Lib.run_unsafeSliceData_row _ _ _ _ _ _ (by omega)
  have hUS : (Builtin.unsafeString_ #[106, 3] 9 #[.pointer (some ⟨g, 0, none⟩), .int .i64 l.length]).run Tryz.prog w.drew = .ok (.string (str l)) (w.drew.freeze ⟨g, 0, none⟩ l.length) := by
    refine Lib.run_unsafeString_row w.drew 106 3 9 5 Tryz.underlying106 cellsByte g cur.size (by have hg' : w.drew.heap[g]? = some (.cells cur 5 (0, 0)) := hg; simp [World.shape?, hg']) l h0 (by omega) (by unfold maxLen at hcm; omega) ?_
    intro j x hx
    exact World.ownsRow.cells h.own (g := g) rfl j (.int .u8 x.toNat) (by simp [bv, hx])
  have HF : Hid ((w.drew.freeze ⟨g, 0, none⟩ l.length).heap[b]? = some (.cells cs T (0, 0)) ∧ But (Value.slice (some ⟨g, 0, none⟩) l.length cap).ownBlock.toList w (w.drew.freeze ⟨g, 0, none⟩ l.length)) := by
    have hB : But (Value.slice (some ⟨g, 0, none⟩) l.length cap).ownBlock.toList w (w.drew.freeze ⟨g, 0, none⟩ l.length) := (But.refl _ w).drew.freeze (p := ⟨g, 0, none⟩) (by simp [Value.ownBlock]) _
    exact ⟨(hB.block b (lt_block h.blk) (fun e => hap (by simpa [Value.ownBlock, eq_comm] using e))).trans h.blk, hB⟩
  clear h hap hl0 h0 hbg hg hnc hcm hcs htake
  go_enter Tryz.func31, Tryz.ntmps31
  go_wp2
  go_region
  all_goals (go_wp2; go_ret; exact ⟨rfl, HF.out.1, HF.out.2⟩)

set_option maxHeartbeats 1000000 in
theorem string_none {w : World} {b o : Nat} {T : TypeId} {cs : Array Value} (h : w.heap[b]? = some (.cells cs T (0, 0))) (hv : cs[o + 1]? = some (.slice none 0 0)) :
    Calls Tryz.prog 31 #[.pointer (some ⟨b, o, none⟩)] w fun e w' => e = .returned (.string (str [])) ∧ w'.heap[b]? = some (.cells cs T (0, 0)) ∧ But [] w w' := by
  have hUS := unsafeString_none
  have c1 : w.drew.cell? ⟨b, o + 1, none⟩ = some (.slice none 0 0) := (cell_at (w := w.drew) h (o + 1)).trans hv
  have hSD : (Builtin.unsafeSliceData_ #[65] 106 #[.slice none 0 0]).run Tryz.prog w.drew = .ok (.pointer none) w.drew := by kernel_rfl
  have HF : Hid (w.drew.heap[b]? = some (.cells cs T (0, 0)) ∧ But [] w w.drew) := ⟨h, (But.refl _ w).drew⟩
  clear h hv
  go_enter Tryz.func31, Tryz.ntmps31
  go_wp2
  go_region
  all_goals (go_wp2; go_ret; exact ⟨rfl, HF.out.1, HF.out.2⟩)

theorem string_in {w : World} {B b o : Nat} {T : TypeId} {cs : Array Value} {v : Value} {l : List UInt8} (h : BuilderIn w B b o T cs v l) (hv : l = [] → v = .slice none 0 0) :
    Calls Tryz.prog 31 #[.pointer (some ⟨b, o, none⟩)] w fun e w' => e = .returned (.string (str l)) ∧ w'.heap[b]? = some (.cells cs T (0, 0)) ∧ But v.ownBlock.toList w w' := by
  by_cases h0 : l = []
  · subst h0
    have := hv rfl
    subst this
    exact string_none h.blk h.buf
  · exact string_some h h0

end Go.Proofs.YtgoofifbifdgoaaGreatDoor
