/-
  Binds: the map of bindings: its keys, its elements.
-/
import Derived.Test.YtbonnjilbocldaaGreatDoorProg
import Derived.Test.YtbonnjilbocldaaGreatDoorHA
import Derived.Maps.OwnSet
import Derived.Maps.RangeWalk
import Derived.DeepKeys4
namespace Go.Proofs.YtbonnjilbocldaaGreatDoor
open Go.RowKit Go.Maps
set_option linter.unusedVariables false
set_option maxRecDepth 100000

theorem laidOutBi : laidOutB Tryz.prog = true := by kernel_rfl
theorem typesBi : Tryz.prog.types.size = 191 := by kernel_rfl
theorem slotKeyed : Keyed Tryz.prog 76 := Keyed.of_law (deep_law_laid laidOutBi (m := 10) (by decide) (by rw [typesBi]; decide) (by kernel_rfl) (by kernel_rfl))
def slotV (t : ByteArray) (c m : Int) : Value := .agg #[.string t, .int .i64 c, .int .i64 m]
def slotK (t : List UInt8) (c m : Int) : Lit := .string (keyBytes [.string t, .int .i64 c, .int .i64 m])
theorem underSlot : Tryz.prog.underlying 76 = some (.struct #[⟨"table", 9, 0, false, "", "mullion/binds", 0⟩, ⟨"key", 23, 1, false, "", "mullion/binds", 16⟩]) := by kernel_rfl
theorem underKeyS : Tryz.prog.underlying 23 = some (.struct #[⟨"Code", 3, 0, false, "", "", 0⟩, ⟨"Mods", 3, 1, false, "", "", 8⟩]) := by kernel_rfl
theorem cellsSlot : Tryz.prog.cellsOf 76 = 3 := by kernel_rfl
theorem cellsKeyS : Tryz.prog.cellsOf 23 = 2 := by kernel_rfl
theorem cells3S : Tryz.prog.cellsOf 3 = 1 := by kernel_rfl
theorem cells9S : Tryz.prog.cellsOf 9 = 1 := by kernel_rfl
theorem keySlot : Tryz.prog.keyType 76 = true := by kernel_rfl
theorem lits_string {t : ByteArray} (ht : t.size ≤ maxLen) (n : Nat) : Tryz.prog.keyLits (n + 1) 9 [.string t] = some [.string t.data.toList] := by
  unfold Program.keyLits
  simp only [Tryz.underlying9]
  rw [if_pos ht]
theorem lits_int {c : Int} (hc : (Lit.int .i64 c).wf = true) (n : Nat) : Tryz.prog.keyLits (n + 1) 3 [.int .i64 c] = some [.int .i64 c] := by
  unfold Program.keyLits
  simp only [Tryz.underlying3]
  rw [if_pos ⟨trivial, hc⟩]
theorem lits_key {c m : Int} (hc : (Lit.int .i64 c).wf = true) (hm : (Lit.int .i64 m).wf = true) (n : Nat) : Tryz.prog.keyLits (n + 1 + 1) 23 [.int .i64 c, .int .i64 m] = some [.int .i64 c, .int .i64 m] := by
  unfold Program.keyLits
  simp only [underKeyS]
  rw [if_pos ⟨by rw [cellsKeyS]; rfl, by simp⟩]
  simp only [List.mapM_cons, List.mapM_nil, cells3S, List.drop_zero, List.take_succ_cons, List.take_zero, List.drop_succ_cons]
  rw [lits_int hc, lits_int hm]
  rfl
theorem lits_slot {t : ByteArray} {c m : Int} (ht : t.size ≤ maxLen) (hc : (Lit.int .i64 c).wf = true) (hm : (Lit.int .i64 m).wf = true) (n : Nat) : Tryz.prog.keyLits (n + 1 + 1 + 1) 76 [.string t, .int .i64 c, .int .i64 m] = some [.string t.data.toList, .int .i64 c, .int .i64 m] := by
  unfold Program.keyLits
  simp only [underSlot]
  rw [if_pos ⟨by rw [cellsSlot]; rfl, by simp⟩]
  simp only [List.mapM_cons, List.mapM_nil, cells9S, cellsKeyS, List.drop_zero, List.take_succ_cons, List.take_zero, List.drop_succ_cons]
  rw [lits_string ht, lits_key hc hm]
  rfl
theorem slot_key {t : ByteArray} {c m : Int} (ht : t.size ≤ maxLen) (hc : (Lit.int .i64 c).wf = true) (hm : (Lit.int .i64 m).wf = true) : keyOf Tryz.prog 76 (slotV t c m) = some (slotK t.data.toList c m) := by
  have hf : (slotV t c m).formed Tryz.prog 76 = true := by
    simp [slotV, Value.formed, cellsSlot]
  have hl := lits_slot ht hc hm (Tryz.prog.types.size - 2)
  have e : Tryz.prog.types.size - 2 + 1 + 1 + 1 = Tryz.prog.types.size + 1 := by rw [typesBi]
  rw [e] at hl
  unfold keyOf
  rw [underSlot]
  dsimp only
  rw [keySlot, hf]
  show (if (true && true) = true then Option.map _ (Tryz.prog.keyLits (Tryz.prog.types.size + 1) 76 [.string t, .int .i64 c, .int .i64 m]) else none) = _
  rw [if_pos (by rfl), hl]
  rfl
theorem slot_inj {t t' : ByteArray} {c m c' m' : Int} (ht : t.size ≤ maxLen) (hc : (Lit.int .i64 c).wf = true) (hm : (Lit.int .i64 m).wf = true) (ht' : t'.size ≤ maxLen) (hc' : (Lit.int .i64 c').wf = true) (hm' : (Lit.int .i64 m').wf = true)
    (h : slotK t.data.toList c m = slotK t'.data.toList c' m') : t = t' ∧ c = c' ∧ m = m' := by
  have h1 := slot_key ht hc hm
  have h2 := slot_key ht' hc' hm'
  rw [← h] at h2
  have e := slotKeyed.inj h1 h2
  unfold slotV at e
  simp only [Value.agg.injEq, Array.mk.injEq, List.cons.injEq, Value.string.injEq, Value.int.injEq, true_and, and_true] at e
  exact e
/-- How a binding's rest reads. -/
def meanR (v : Value) : Option (DataW Unit × List MemPlace) :=
  match v with
  | .agg a => match a.toList with
    | [.string s, .bool r] => some (.agg [.lit (.string s.data.toList), .lit (.bool r)], [])
    | _ => none
  | _ => none
theorem meanR_mk (s : ByteArray) (r : Bool) : meanR (.agg #[.string s, .bool r]) = some (.agg [.lit (.string s.data.toList), .lit (.bool r)], []) := rfl
theorem meanR_inv {v : Value} {z : DataW Unit × List MemPlace} (h : meanR v = some z) : ∃ s r, v = .agg #[.string s, .bool r] ∧ z = (.agg [.lit (.string s.data.toList), .lit (.bool r)], []) := by
  unfold meanR at h
  split at h
  · rename_i a
    split at h
    · rename_i s r e
      cases h
      obtain ⟨l⟩ := a
      cases e
      exact ⟨s, r, rfl, rfl⟩
    · cases h
  · cases h
theorem meanZ (w : World) : (zeroValue 78).run Tryz.prog w = .ok (.agg #[.string ⟨#[]⟩, .bool false]) w := by kernel_rfl
theorem underRows : Tryz.prog.underlying 64 = some (.map 76 78) := by kernel_rfl
end Go.Proofs.YtbonnjilbocldaaGreatDoor
