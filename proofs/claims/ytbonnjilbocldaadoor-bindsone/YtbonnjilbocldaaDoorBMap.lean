/-
  Binds: the map of bindings: its keys, its elements.
-/
import Derived.Test.YtbonnjilbocldaaDoorProg
import Derived.Test.YtbonnjilbocldaaDoorHA
import Derived.Maps.OwnSet
import Derived.Maps.RangeWalk
import Derived.DeepKeys4
namespace Go.Proofs.YtbonnjilbocldaaDoor
open Go.RowKit Go.Maps
set_option linter.unusedVariables false
set_option maxRecDepth 100000

theorem laidOutBi : laidOutB Tryd.prog = true := by kernel_rfl
theorem typesBi : Tryd.prog.types.size = 169 := by kernel_rfl
theorem slotKeyed : Keyed Tryd.prog 60 := Keyed.of_law (deep_law_laid laidOutBi (m := 10) (by decide) (by rw [typesBi]; decide) (by kernel_rfl) (by kernel_rfl))
def slotV (t : ByteArray) (c m : Int) : Value := .agg #[.string t, .int .i64 c, .int .i64 m]
def slotK (t : List UInt8) (c m : Int) : Lit := .string (keyBytes [.string t, .int .i64 c, .int .i64 m])
theorem underSlot : Tryd.prog.underlying 60 = some (.struct #[⟨"table", 9, 0, false, "", "mullion/binds", 0⟩, ⟨"key", 23, 1, false, "", "mullion/binds", 16⟩]) := by kernel_rfl
theorem underKeyS : Tryd.prog.underlying 23 = some (.struct #[⟨"Code", 3, 0, false, "", "", 0⟩, ⟨"Mods", 3, 1, false, "", "", 8⟩]) := by kernel_rfl
theorem cellsSlot : Tryd.prog.cellsOf 60 = 3 := by kernel_rfl
theorem cellsKeyS : Tryd.prog.cellsOf 23 = 2 := by kernel_rfl
theorem cells3S : Tryd.prog.cellsOf 3 = 1 := by kernel_rfl
theorem cells9S : Tryd.prog.cellsOf 9 = 1 := by kernel_rfl
theorem keySlot : Tryd.prog.keyType 60 = true := by kernel_rfl
theorem lits_string {t : ByteArray} (ht : t.size ≤ maxLen) (n : Nat) : Tryd.prog.keyLits (n + 1) 9 [.string t] = some [.string t.data.toList] := by
  unfold Program.keyLits
  simp only [Tryd.underlying9]
  rw [if_pos ht]
theorem lits_int {c : Int} (hc : (Lit.int .i64 c).wf = true) (n : Nat) : Tryd.prog.keyLits (n + 1) 3 [.int .i64 c] = some [.int .i64 c] := by
  unfold Program.keyLits
  simp only [Tryd.underlying3]
  rw [if_pos ⟨trivial, hc⟩]
theorem lits_key {c m : Int} (hc : (Lit.int .i64 c).wf = true) (hm : (Lit.int .i64 m).wf = true) (n : Nat) : Tryd.prog.keyLits (n + 1 + 1) 23 [.int .i64 c, .int .i64 m] = some [.int .i64 c, .int .i64 m] := by
  unfold Program.keyLits
  simp only [underKeyS]
  rw [if_pos ⟨by rw [cellsKeyS]; rfl, by simp⟩]
  simp only [List.mapM_cons, List.mapM_nil, cells3S, List.drop_zero, List.take_succ_cons, List.take_zero, List.drop_succ_cons]
  rw [lits_int hc, lits_int hm]
  rfl
theorem lits_slot {t : ByteArray} {c m : Int} (ht : t.size ≤ maxLen) (hc : (Lit.int .i64 c).wf = true) (hm : (Lit.int .i64 m).wf = true) (n : Nat) : Tryd.prog.keyLits (n + 1 + 1 + 1) 60 [.string t, .int .i64 c, .int .i64 m] = some [.string t.data.toList, .int .i64 c, .int .i64 m] := by
  unfold Program.keyLits
  simp only [underSlot]
  rw [if_pos ⟨by rw [cellsSlot]; rfl, by simp⟩]
  simp only [List.mapM_cons, List.mapM_nil, cells9S, cellsKeyS, List.drop_zero, List.take_succ_cons, List.take_zero, List.drop_succ_cons]
  rw [lits_string ht, lits_key hc hm]
  rfl
theorem slot_key {t : ByteArray} {c m : Int} (ht : t.size ≤ maxLen) (hc : (Lit.int .i64 c).wf = true) (hm : (Lit.int .i64 m).wf = true) : keyOf Tryd.prog 60 (slotV t c m) = some (slotK t.data.toList c m) := by
  have hf : (slotV t c m).formed Tryd.prog 60 = true := by
    simp [slotV, Value.formed, cellsSlot]
  have hl := lits_slot ht hc hm (Tryd.prog.types.size - 2)
  have e : Tryd.prog.types.size - 2 + 1 + 1 + 1 = Tryd.prog.types.size + 1 := by rw [typesBi]
  rw [e] at hl
  unfold keyOf
  rw [underSlot]
  dsimp only
  rw [keySlot, hf]
  show (if (true && true) = true then Option.map _ (Tryd.prog.keyLits (Tryd.prog.types.size + 1) 60 [.string t, .int .i64 c, .int .i64 m]) else none) = _
  rw [if_pos (by rfl), hl]
  rfl
theorem slot_inj {t t' : ByteArray} {c m c' m' : Int} (ht : t.size ≤ maxLen) (hc : (Lit.int .i64 c).wf = true) (hm : (Lit.int .i64 m).wf = true) (ht' : t'.size ≤ maxLen) (hc' : (Lit.int .i64 c').wf = true) (hm' : (Lit.int .i64 m').wf = true)
    (h : slotK t.data.toList c m = slotK t'.data.toList c' m') : t = t' ∧ c = c' ∧ m = m' := by
  have h1 := slot_key ht hc hm
  have h2 := slot_key ht' hc' hm'
  rw [← h] at h2
  have e := slotKeyed.inj h1 h2
  unfold slotV at e
  simp only [Value.agg.injEq, Array.mk.injEq, List.cons.injEq, Value.string.injEq, Value.int.injEq, true_and, and_true] at e
  exact e
/-- How a binding's rest reads. -/
def meanR (v : Value) : Option (DataW Unit × List MemPlace) :=
  match v with
  | .agg a => match a.toList with
    | [.string s, .bool r] => some (.agg [.lit (.string s.data.toList), .lit (.bool r)], [])
    | _ => none
  | _ => none
theorem meanR_mk (s : ByteArray) (r : Bool) : meanR (.agg #[.string s, .bool r]) = some (.agg [.lit (.string s.data.toList), .lit (.bool r)], []) := rfl
theorem meanR_inv {v : Value} {z : DataW Unit × List MemPlace} (h : meanR v = some z) : ∃ s r, v = .agg #[.string s, .bool r] ∧ z = (.agg [.lit (.string s.data.toList), .lit (.bool r)], []) := by
  unfold meanR at h
  split at h
  · rename_i a
    split at h
    · rename_i s r e
      cases h
      obtain ⟨l⟩ := a
      cases e
      exact ⟨s, r, rfl, rfl⟩
    · cases h
  · cases h
theorem meanZ (w : World) : (zeroValue 62).run Tryd.prog w = .ok (.agg #[.string ⟨#[]⟩, .bool false]) w := by kernel_rfl
theorem underRows : Tryd.prog.underlying 46 = some (.map 60 62) := by kernel_rfl
end Go.Proofs.YtbonnjilbocldaaDoor
