/-
  Options: the map of what is set: its keys, its elements.
-/
import Derived.Test.YtgdkpmfdpfjdjaaGreatDoorProg
import Derived.Test.YtgdkpmfdpfjdjaaGreatDoorPlainN
import Derived.Maps.OwnSet
import Derived.Maps.RangeWalk
import Derived.Maps.Ext
import Derived.DeepKeys4
namespace Go.Proofs.YtgdkpmfdpfjdjaaGreatDoor
open Go.RowKit Go.Maps
set_option linter.unusedVariables false
set_option maxRecDepth 100000

theorem laidOutO : laidOutB Tryz.prog = true := by kernel_rfl
theorem typesO : Tryz.prog.types.size = 224 := by kernel_rfl
theorem slotKeyed : Keyed Tryz.prog 69 := Keyed.of_law (deep_law_laid laidOutO (m := 10) (by decide) (by rw [typesO]; decide) (by kernel_rfl) (by kernel_rfl))
def slotV (c m : Int) (t : ByteArray) : Value := .agg #[.int .i64 c, .int .i64 m, .string t]
def slotK (c m : Int) (t : List UInt8) : Lit := .string (keyBytes [.int .i64 c, .int .i64 m, .string t])
theorem underSlot : Tryz.prog.underlying 69 = some (.struct #[⟨"place", 64, 0, false, "", "mullion/options", 0⟩, ⟨"name", 9, 2, false, "", "mullion/options", 16⟩]) := by kernel_rfl
theorem underPlace : Tryz.prog.underlying 64 = some (.struct #[⟨"scope", 3, 0, false, "", "mullion/options", 0⟩, ⟨"id", 3, 1, false, "", "mullion/options", 8⟩]) := by kernel_rfl
theorem cellsSlot : Tryz.prog.cellsOf 69 = 3 := by kernel_rfl
theorem cellsPlace : Tryz.prog.cellsOf 64 = 2 := by kernel_rfl
theorem cells3S : Tryz.prog.cellsOf 3 = 1 := by kernel_rfl
theorem cells9S : Tryz.prog.cellsOf 9 = 1 := by kernel_rfl
theorem keySlot : Tryz.prog.keyType 69 = true := by kernel_rfl
theorem lits_string {t : ByteArray} (ht : t.size ≤ maxLen) (n : Nat) : Tryz.prog.keyLits (n + 1) 9 [.string t] = some [.string t.data.toList] := by
  unfold Program.keyLits
  simp only [Tryz.underlying9]
  rw [if_pos ht]
theorem lits_int {c : Int} (hc : (Lit.int .i64 c).wf = true) (n : Nat) : Tryz.prog.keyLits (n + 1) 3 [.int .i64 c] = some [.int .i64 c] := by
  unfold Program.keyLits
  simp only [Tryz.underlying3]
  rw [if_pos ⟨trivial, hc⟩]
theorem lits_place {c m : Int} (hc : (Lit.int .i64 c).wf = true) (hm : (Lit.int .i64 m).wf = true) (n : Nat) : Tryz.prog.keyLits (n + 1 + 1) 64 [.int .i64 c, .int .i64 m] = some [.int .i64 c, .int .i64 m] := by
  unfold Program.keyLits
  simp only [underPlace]
  rw [if_pos ⟨by rw [cellsPlace]; rfl, by simp⟩]
  simp only [List.mapM_cons, List.mapM_nil, cells3S, List.drop_zero, List.take_succ_cons, List.take_zero, List.drop_succ_cons]
  rw [lits_int hc, lits_int hm]
  rfl
theorem lits_slot {t : ByteArray} {c m : Int} (ht : t.size ≤ maxLen) (hc : (Lit.int .i64 c).wf = true) (hm : (Lit.int .i64 m).wf = true) (n : Nat) : Tryz.prog.keyLits (n + 1 + 1 + 1) 69 [.int .i64 c, .int .i64 m, .string t] = some [.int .i64 c, .int .i64 m, .string t.data.toList] := by
  unfold Program.keyLits
  simp only [underSlot]
  rw [if_pos ⟨by rw [cellsSlot]; rfl, by simp⟩]
  simp only [List.mapM_cons, List.mapM_nil, cells9S, cellsPlace, List.drop_zero, List.take_succ_cons, List.take_zero, List.drop_succ_cons]
  rw [lits_string ht, lits_place hc hm]
  rfl
theorem slot_key {t : ByteArray} {c m : Int} (ht : t.size ≤ maxLen) (hc : (Lit.int .i64 c).wf = true) (hm : (Lit.int .i64 m).wf = true) : keyOf Tryz.prog 69 (slotV c m t) = some (slotK c m t.data.toList) := by
  have hf : (slotV c m t).formed Tryz.prog 69 = true := by
    simp [slotV, Value.formed, cellsSlot]
  have hl := lits_slot ht hc hm (Tryz.prog.types.size - 2)
  have e : Tryz.prog.types.size - 2 + 1 + 1 + 1 = Tryz.prog.types.size + 1 := by rw [typesO]
  rw [e] at hl
  unfold keyOf
  rw [underSlot]
  dsimp only
  rw [keySlot, hf]
  show (if (true && true) = true then Option.map _ (Tryz.prog.keyLits (Tryz.prog.types.size + 1) 69 [.int .i64 c, .int .i64 m, .string t]) else none) = _
  rw [if_pos (by rfl), hl]
  rfl
theorem slot_inj {t t' : ByteArray} {c m c' m' : Int} (ht : t.size ≤ maxLen) (hc : (Lit.int .i64 c).wf = true) (hm : (Lit.int .i64 m).wf = true) (ht' : t'.size ≤ maxLen) (hc' : (Lit.int .i64 c').wf = true) (hm' : (Lit.int .i64 m').wf = true)
    (h : slotK c m t.data.toList = slotK c' m' t'.data.toList) : c = c' ∧ m = m' ∧ t = t' := by
  have h1 := slot_key ht hc hm
  have h2 := slot_key ht' hc' hm'
  rw [← h] at h2
  have e := slotKeyed.inj h1 h2
  unfold slotV at e
  simp only [Value.agg.injEq, Array.mk.injEq, List.cons.injEq, Value.string.injEq, Value.int.injEq, true_and, and_true] at e
  exact e
/-- How what is set reads. -/
def heldR (v : Value) : Option (DataW Unit × List MemPlace) :=
  match v with
  | .agg a => match a.toList with
    | [.string s] => some (.agg [.lit (.string s.data.toList)], [])
    | _ => none
  | _ => none
theorem heldR_mk (s : ByteArray) : heldR (.agg #[.string s]) = some (.agg [.lit (.string s.data.toList)], []) := rfl
theorem heldR_inv {v : Value} {z : DataW Unit × List MemPlace} (h : heldR v = some z) : ∃ s, v = .agg #[.string s] ∧ z = (.agg [.lit (.string s.data.toList)], []) := by
  unfold heldR at h
  split at h
  · rename_i a
    split at h
    · rename_i s e
      cases h
      obtain ⟨l⟩ := a
      cases e
      exact ⟨s, rfl, rfl⟩
    · cases h
  · cases h
theorem heldZ (w : World) : (zeroValue 66).run Tryz.prog w = .ok (.agg #[.string ⟨#[]⟩]) w := by kernel_rfl
theorem underHeld : Tryz.prog.underlying 57 = some (.map 69 66) := by kernel_rfl
def heldD (s : ByteArray) : DataW Unit := .agg [.lit (.string s.data.toList)]
theorem heldD_inj {s s' : ByteArray} (h : heldD s = heldD s') : s = s' := by
  unfold heldD at h
  simp only [DataW.agg.injEq, List.cons.injEq, DataW.lit.injEq, Lit.string.injEq, and_true] at h
  apply ByteArray.ext
  exact Array.ext' h
def zeroD : DataW Unit := heldD ⟨#[]⟩
theorem slot_lit {t : ByteArray} {c m : Int} (ht : t.size ≤ maxLen) (hc : (Lit.int .i64 c).wf = true) (hm : (Lit.int .i64 m).wf = true) : WideAt.IsKeyLit (slotK c m t.data.toList) := slotKeyed.key (slot_key ht hc hm)
end Go.Proofs.YtgdkpmfdpfjdjaaGreatDoor
