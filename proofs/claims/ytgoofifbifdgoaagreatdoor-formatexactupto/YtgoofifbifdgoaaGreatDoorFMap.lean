/-
  Formats: maps whose keys are texts or bytes: what is looked up, what is laid in.
-/
import Derived.Test.YtgoofifbifdgoaaGreatDoorFRow
import Derived.WalkKit
namespace Go.Proofs.YtgoofifbifdgoaaGreatDoor
open Go.RowKit
set_option linter.unusedVariables false
set_option maxRecDepth 20000

/-- A map's entries, in their order: its keys are texts. -/
abbrev Ents := List (List UInt8 × Value)
def entV (p : List UInt8 × Value) : Value × Value := (.string (str p.1), p.2)
def MapAt (w : World) (b : Nat) (m : Ents) : Prop := ∃ es clock, w.heap[b]? = some (.map es clock) ∧ es.toList.map (fun e => (e.key, e.val)) = m.map entV
theorem MapAt.keep {w w' : World} {b : Nat} {m : Ents} (h : MapAt w b m) (hk : w'.heap[b]? = w.heap[b]?) : MapAt w' b m := by
  obtain ⟨es, c, h1, h2⟩ := h
  exact ⟨es, c, hk.trans h1, h2⟩
theorem MapAt.lt {w : World} {b : Nat} {m : Ents} (h : MapAt w b m) : b < w.heap.size := by
  obtain ⟨es, c, h1, h2⟩ := h
  exact lt_of_block h1
theorem MapAt.below {w w' : World} {b : Nat} {m : Ents} (h : MapAt w b m) (hb : Below w.heap.size w w') : MapAt w' b m := h.keep (hb.block b h.lt)
theorem str_inj {a b : List UInt8} (h : str a = str b) : a = b := by
  have := congrArg (fun s => s.data.toList) h
  exact this
theorem str_beq (a b : List UInt8) : (str a == str b) = decide (a = b) := by
  show (a.toArray == b.toArray) = decide (a = b)
  by_cases h : a = b
  · subst h
    simp
  · rw [decide_eq_false h]
    simpa using h
def lookT (m : Ents) (k : List UInt8) : Option Value := (m.find? fun p => decide (p.1 = k)).map (·.2)
theorem find_text (k : List UInt8) : ∀ (es : List MapEntry) (m : Ents) (i : Nat), es.map (fun e => (e.key, e.val)) = m.map entV → ∃ j, Instr.findNow .string (.string (str k)) es i = some ((lookT m k).map fun v => (j, v))
  | [], m, i, h => by
    cases m with
    | nil => exact ⟨0, rfl⟩
    | cons p m => cases h
  | e :: es, m, i, h => by
    cases m with
    | nil => cases h
    | cons p m =>
      simp only [List.map_cons, List.cons.injEq] at h
      obtain ⟨h1, h2⟩ := h
      have hs : e.key = .string (str p.1) := congrArg Prod.fst h1
      have hv : e.val = p.2 := congrArg Prod.snd h1
      by_cases hk : p.1 = k
      · refine ⟨i, ?_⟩
        have hbe : (str k == str p.1) = true := by rw [str_beq]; exact decide_eq_true hk.symm
        simp only [Instr.findNow, Instr.sameNow, hs, hbe, hv]
        simp [lookT, hk]
      · obtain ⟨j, hj⟩ := find_text k es m (i + 1) h2
        refine ⟨j, ?_⟩
        have hbe : (str k == str p.1) = false := by rw [str_beq]; exact decide_eq_false fun e => hk e.symm
        simp only [Instr.findNow, Instr.sameNow, hs, hbe, hj]
        simp [lookT, hk]
theorem check_text {kt : TypeId} (hk : Tryz.prog.underlying kt = some .string) (em : Bool) (s : ByteArray) (w : World) : (Instr.checkKey em 10000 kt (.string s)).run Tryz.prog w = .ok () w := by
  rw [show (10000 : Nat) = 9999 + 1 from rfl, Instr.checkKey]
  simp [run_underlying hk]
theorem findKey_text {kt : TypeId} (hk : Tryz.prog.underlying kt = some .string) {s : ByteArray} {es : List MapEntry} {r : Option (Nat × Value)} (h : Instr.findNow .string (.string s) es 0 = some r) (w : World) : (Instr.findKey kt (.string s) es).run Tryz.prog w = .ok r w := by
  simp [Instr.findKey, run_underlying hk, h]
/-- Looked up, with its ok. -/
theorem look_some {w : World} {b : Nat} {m : Ents} {t kt et : TypeId} {k : List UInt8} {v : Value} (h : MapAt w b m) (ht : Tryz.prog.underlying t = some (.map kt et)) (hk : Tryz.prog.underlying kt = some .string) (hv : lookT m k = some v) :
    (Instr.lookup t (.map (some b)) (.string (str k)) true).run Tryz.prog w = .ok (.tuple #[v, .bool true]) w := by
  obtain ⟨es, c, h1, h2⟩ := h
  obtain ⟨j, hj⟩ := find_text k es.toList m 0 h2
  rw [hv] at hj
  simp [Instr.lookup, run_underlying ht, MapKept.run_getObj_map h1, check_text hk, findKey_text hk hj, Result.andThen]
theorem look_none {w : World} {b : Nat} {m : Ents} {t kt et : TypeId} {k : List UInt8} {z : Value} (h : MapAt w b m) (ht : Tryz.prog.underlying t = some (.map kt et)) (hk : Tryz.prog.underlying kt = some .string) (hz : (zeroValue et).run Tryz.prog w = .ok z w) (hv : lookT m k = none) :
    (Instr.lookup t (.map (some b)) (.string (str k)) true).run Tryz.prog w = .ok (.tuple #[z, .bool false]) w := by
  obtain ⟨es, c, h1, h2⟩ := h
  obtain ⟨j, hj⟩ := find_text k es.toList m 0 h2
  rw [hv] at hj
  simp [Instr.lookup, run_underlying ht, MapKept.run_getObj_map h1, check_text hk, findKey_text hk hj, hz, Result.andThen]

/-- Laid in, where there is none of that key. -/
theorem lay_new {w : World} {b : Nat} {m : Ents} {t kt et : TypeId} {k : List UInt8} {v : Value} (h : MapAt w b m) (ht : Tryz.prog.underlying t = some (.map kt et)) (hk : Tryz.prog.underlying kt = some .string) (hv : lookT m k = none) :
    ∃ w', (Instr.mapUpdate t (.map (some b)) (.string (str k)) v).run Tryz.prog w = .ok () w' ∧ MapAt w' b (m ++ [(k, v)]) ∧ But [b] w w' := by
  obtain ⟨es, c, h1, h2⟩ := h
  obtain ⟨j, hj⟩ := find_text k es.toList m 0 h2
  rw [hv] at hj
  have hlt := lt_of_block h1
  refine ⟨{ w with heap := w.heap.setIfInBounds b (.map (es.push { key := .string (str k), val := v, born := c }) (c + 1)) }, ?_, ⟨es.push { key := .string (str k), val := v, born := c }, c + 1, ?_, ?_⟩, ⟨rfl, rfl, rfl, ?_, fun g hg hn => ?_⟩⟩
  · simp [Instr.mapUpdate, run_underlying ht, MapKept.run_getObj_map h1, check_text hk, findKey_text hk hj, MapKept.run_setObj_map _ h1, Result.andThen]
  · show (w.heap.setIfInBounds b _)[b]? = _
    rw [Array.getElem?_setIfInBounds_self_of_lt hlt]
  · rw [Array.toList_push, List.map_append, h2, List.map_append]
    rfl
  · show w.heap.size ≤ (w.heap.setIfInBounds b _).size
    rw [Array.size_setIfInBounds]
    exact Nat.le_refl _
  · show (w.heap.setIfInBounds b _)[g]? = _
    rw [Array.getElem?_setIfInBounds_ne (fun e => hn (by simp [e]))]

end Go.Proofs.YtgoofifbifdgoaaGreatDoor
