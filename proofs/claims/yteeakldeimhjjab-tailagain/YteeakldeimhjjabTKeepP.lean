/-
  The tail: what keep leaves.
-/
import Derived.Test.YteeakldeimhjjabTGrow
import Derived.Test.YteeakldeimhjjabTLineW
import Derived.WalkKit
import Derived.BigQuiet
import Derived.Deep.QuietTactic
import Derived.Lib.BufferWrite
namespace Go.Proofs.Yteeakldeimhjjab
open Go.RowKit Go.Lib
set_option linter.unusedVariables false
set_option maxRecDepth 100000

theorem wpList_copy_run {P : Program} {w w' : World} {ops : Array Oper} {rest : List Oper} {o : Oper} {a : Act} {Q : Exit → Act → World → Prop} (hgd : o.guard = none) (d s : Operand) (dT sT : TypeId)
    (ho : o.op = .call { callee := .builtin .copy, args := #[d, s], argTypes := #[dT, sT] }) {dv sv r : Value} (hd : a.eval d = dv) (hs : a.eval s = sv)
    (hrun : (Builtin.copy_ #[dT, sT] o.type #[dv, sv]).run P w = .ok r w')
    (h : wpList P ops Q rest (a.put o.dst r) w') : wpList P ops Q (o :: rest) a w := by
  refine wpList_plain hgd fun K hK => ?_
  unfold Oper.wp
  simp [execOp, ho, resolve, invoke, builtin, hd, hs, hrun, Result.andThen]
  exact hK _ _ h

theorem Try.size5T : ((Try.prog.info? 5).map (·.size)).isSome = true := by kernel_rfl
theorem Try.size5T1 : (Try.prog.info? 5).map (·.size) = some 1 := by kernel_rfl

theorem lastN_cut {l t : List UInt8} {lim X : Nat} (hX : X = l.length + t.length - lim) (h : X ≤ l.length) : lastN lim (l ++ t) = l.drop X ++ t := by
  unfold lastN
  rw [List.length_append, ← hX, List.drop_append_of_le_length h]

/-- What keep leaves, where bytes went over. -/
theorem keep_close {w w1 : World} {b : Nat} {v : Value} {lim e : Nat} {l t : List UInt8} {X K M g o cap : Nat} {cur : Array Value} (h : LogAt w b v lim e l) (hbel : Below w.heap.size w w1) (ht : t.length ≤ lim)
    (hX : X = l.length + t.length - lim) (hK : K = l.length - X) (hM : M = K + t.length) (hg : w1.heap[g]? = some (.cells cur 5 (0, 0))) (hr : M ≤ cap) (hm : cap ≤ 9223372036854775807) (hsz : o + cap ≤ cur.size)
    (hby : ∀ j (hj : j < (l.drop X).length), cur[o + j]? = some (bv (l.drop X)[j])) (hown : some g = v.ownBlock ∨ w.heap.size ≤ g) {o2 : Nat} (ho2 : o2 = o + K) :
    LogAt ((w1.setCell ⟨b, 2, none⟩ (.slice (some ⟨g, o, none⟩) M cap)).setRow g (cur.toList.take o2 ++ Go.Lib.byteCells t ++ cur.toList.drop (o2 + t.length)).toArray) b (.slice (some ⟨g, o, none⟩) M cap) lim e (lastN lim (l ++ t)) ∧
    But (foot b v) w ((w1.setCell ⟨b, 2, none⟩ (.slice (some ⟨g, o, none⟩) M cap)).setRow g (cur.toList.take o2 ++ Go.Lib.byteCells t ++ cur.toList.drop (o2 + t.length)).toArray) := by
  subst ho2
  have hl := h.len
  have hb1 : w1.heap[b]? = some (.cells (logV lim e v) 57 (0, 0)) := (hbel.block b (h.lt b (by simp [foot]))).trans h.cells
  have hgb : g ≠ b := by
    intro hh
    subst hh
    have := hg.symm.trans hb1
    simp at this
  have hlast := lastN_cut (l := l) (t := t) (lim := lim) hX (by omega)
  have hdl : (l.drop X).length = K := by rw [List.length_drop, hK]
  have hln : (lastN lim (l ++ t)).length = M := by rw [hlast, List.length_append, hdl, hM]
  have hcl : cur.toList.length = cur.size := Array.length_toList
  have htl : (Go.Lib.byteCells t).length = t.length := Go.Lib.byteCells_length t
  refine ⟨⟨?_, .inr ⟨g, o, cap, (cur.toList.take (o + K) ++ Go.Lib.byteCells t ++ cur.toList.drop (o + K + t.length)).toArray, slice_ext hln.symm rfl, ?_, by omega, hm, ?_, ?_⟩, h.low, h.high, by rw [lastN_length]; omega, h.most⟩, ?_⟩
  · rw [setRow_other _ _ _ _ (Ne.symm hgb), heap_setCell_same w1 b 2 _ _ _ hb1]
    rfl
  · exact setRow_heap _ g cur _ 5 (0, 0) (by rw [Below.heap_setCell _ _ _ _ hgb]; exact hg)
  · simp only [List.size_toArray, List.length_append, List.length_take, List.length_drop, htl, hcl]
    omega
  · intro j hj
    rw [hln] at hj
    simp only [hlast]
    have htk : (cur.toList.take (o + K)).length = o + K := by rw [List.length_take, hcl]; omega
    rw [List.getElem?_toArray, List.append_assoc]
    by_cases hjk : j < K
    · rw [List.getElem?_append_left (by rw [htk]; omega), List.getElem?_take_of_lt (by omega), Array.getElem?_toList, List.getElem_append_left (by rw [hdl]; exact hjk)]
      exact hby j (by rw [hdl]; exact hjk)
    · rw [List.getElem?_append_right (by rw [htk]; omega), List.getElem?_append_left (by rw [htk, htl]; omega), htk, List.getElem_append_right (by rw [hdl]; omega)]
      simp only [hdl]
      rw [show o + j - (o + K) = j - K by omega]
      unfold Go.Lib.byteCells
      rw [List.getElem?_map, List.getElem?_eq_getElem (by omega)]
      rfl
  · refine But.setRow (But.setCell (But.of hbel) (.inl (by simp [foot])) _) ?_ _
    rcases hown with hh | hh
    · exact .inl (by simp [foot, ← hh])
    · exact .inr hh

/-- .. where nothing went over. -/
theorem keep_still {w w1 : World} {b : Nat} {v v' : Value} {lim e : Nat} {l : List UInt8} {X : Nat} (h : LogAt w b v lim e l) (hbel : Below w.heap.size w w1)
    (hX : X = l.length + 0 - lim) (hby : Bytes w1 v' (l.drop X)) :
    LogAt (w1.setCell ⟨b, 2, none⟩ v') b v' lim e (lastN lim (l ++ [])) ∧ But (foot b v) w (w1.setCell ⟨b, 2, none⟩ v') := by
  have hl := h.len
  have hb1 : w1.heap[b]? = some (.cells (logV lim e v) 57 (0, 0)) := (hbel.block b (h.lt b (by simp [foot]))).trans h.cells
  have hlast := lastN_cut (l := l) (t := []) (lim := lim) hX (by omega)
  rw [List.append_nil (l.drop X)] at hlast
  refine ⟨⟨?_, ?_, h.low, h.high, by rw [lastN_length]; omega, h.most⟩, But.setCell (But.of hbel) (.inl (by simp [foot])) _⟩
  · rw [heap_setCell_same w1 b 2 _ _ _ hb1]
    rfl
  · rw [hlast]
    refine hby.keep fun g hg => Below.heap_setCell _ _ _ _ (fun hh => ?_)
    rcases hby with ⟨rfl, _⟩ | ⟨g', o, cap, cur, rfl, hg', _⟩
    · cases hg
    · cases hg
      have hh2 : g' = b := hh
      subst hh2
      have := hg'.symm.trans hb1
      simp at this

end Go.Proofs.Yteeakldeimhjjab
