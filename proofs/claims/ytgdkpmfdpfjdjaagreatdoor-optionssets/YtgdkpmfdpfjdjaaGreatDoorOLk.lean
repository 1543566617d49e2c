/-
  Options: a look into the table.
-/
import Derived.Test.YtgdkpmfdpfjdjaaGreatDoorOSp
import Derived.Test.YtgdkpmfdpfjdjaaGreatDoorOTb
namespace Go.Proofs.YtgdkpmfdpfjdjaaGreatDoor
open Go.RowKit Go.Maps
set_option linter.unusedVariables false
set_option maxRecDepth 100000

theorem Tbl.atz {w Y : World} {b : Nat} {l : List (ByteArray × Value)} (h : Tbl w Y b rowsO l) (k : ByteArray) :
    (∃ r ∈ rowsO, r.name = k ∧ ∃ kv, (∀ z, (tabD l).atKey (.string k.data.toList) z = .held (optV r.scope kv r.first)) ∧ KindAt Y b r.kd kv) ∨ ((∀ r ∈ rowsO, r.name ≠ k) ∧ ∀ z, (tabD l).atKey (.string k.data.toList) z = z) := by
  by_cases hk : k ∈ rowsO.map Orow.name
  · obtain ⟨i, hi, e⟩ := List.getElem_of_mem hk
    rw [List.length_map] at hi
    rw [List.getElem_map] at e
    obtain ⟨kv, hv, hkd⟩ := h.kinds i hi
    have hlen : l.length = rowsO.length := by have := congrArg List.length h.names; simpa using this
    have hil : i < l.length := by omega
    have hn : l[i].1 = rowsO[i].name := by
      have h1 : (l.map Prod.fst)[i]? = (rowsO.map Orow.name)[i]? := by rw [h.names]
      rw [List.getElem?_map, List.getElem?_map, List.getElem?_eq_getElem hil, List.getElem?_eq_getElem hi] at h1
      exact Option.some.inj h1
    rw [List.getElem?_eq_getElem hil] at hv
    have hv2 : l[i].2 = optV rowsO[i].scope kv rowsO[i].first := Option.some.inj hv
    refine .inl ⟨rowsO[i], List.getElem_mem hi, e, kv, fun z => ?_, hkd⟩
    have hx := tabD_some z l (by rw [h.names]; exact names_nodup) l[i] (List.getElem_mem hil)
    rw [hn, hv2] at hx
    rw [← e]
    exact hx
  · refine .inr ⟨fun r hr e => hk (List.mem_map.2 ⟨r, hr, e⟩), fun z => tabD_none z k l ?_⟩
    rw [h.names]
    exact hk
/-- A kind's value: a closure, two flags. -/
theorem KindAt.clo {Y : World} {b : Nat} {k : Kd} {v : Value} (h : KindAt Y b k v) : ∃ g cap, v = .agg #[.func (.func g) #[] cap, .bool (isTxt k), .bool (isFlag k)] := by
  cases k with
  | num lo hi => obtain ⟨p, q, e, _⟩ := h; exact ⟨_, _, e⟩
  | txt => exact ⟨_, _, h⟩
  | key => exact ⟨_, _, h⟩
  | flag => obtain ⟨g, ⟨p, e, _⟩, _⟩ := h; exact ⟨_, _, e⟩
  | cho ws => obtain ⟨g, ⟨p, e, _⟩, _⟩ := h; exact ⟨_, _, e⟩
def optA (r : Orow) (g : Nat) (cap : Array Value) : Value := .agg #[.int .i64 r.scope, .func (.func g) #[] cap, .bool (isTxt r.kd), .bool (isFlag r.kd), .string r.first]
theorem Tbl.looks {w Y : World} {b : Nat} {l : List (ByteArray × Value)} (h : Tbl w Y b rowsO l) (k : ByteArray) (hs : k.size ≤ maxLen) :
    (∃ r g cap, rowO k = some r ∧ KindAt Y b r.kd (.agg #[.func (.func g) #[] cap, .bool (isTxt r.kd), .bool (isFlag r.kd)]) ∧ ∀ Z : World, Z.heap[b]? = Y.heap[b]? → (Instr.lookup 46 (.map (some b)) (.string k) true).run Tryz.prog Z = .ok (.tuple #[.agg #[.int .i64 r.scope, .func (.func g) #[] cap, .bool (isTxt r.kd), .bool (isFlag r.kd), .string r.first], .bool true]) Z) ∨
    (rowO k = none ∧ ∀ Z : World, Z.heap[b]? = Y.heap[b]? → (Instr.lookup 46 (.map (some b)) (.string k) true).run Tryz.prog Z = .ok (.tuple #[.agg #[.int .i64 0, .nilFunc, .bool false, .bool false, .string ⟨#[]⟩], .bool false]) Z) := by
  rcases h.atz k with ⟨r, hr, hn, kv, hat, hk⟩ | ⟨hno, hat⟩
  · obtain ⟨g, cap, rfl⟩ := hk.clo
    refine .inl ⟨r, g, cap, rowO_some hr hn, hk, fun Z hZ => ?_⟩
    obtain ⟨v, ps, hrun, hv⟩ := (own_sameO h.own hZ).look_ok strKeyed underTab (zeroRunO Z) (zd := .held zeroO) (zp := []) rfl (keyOf_str hs)
    have hv2 := optR_inv hv
    rw [hat] at hv2
    obtain rfl : optV r.scope (.agg #[.func (.func g) #[] cap, .bool (isTxt r.kd), .bool (isFlag r.kd)]) r.first = v := DataW.held.inj hv2
    rw [Maps.has_true_of_atKey hat] at hrun
    exact hrun
  · refine .inr ⟨rowO_none hno, fun Z hZ => ?_⟩
    obtain ⟨v, ps, hrun, hv⟩ := (own_sameO h.own hZ).look_ok strKeyed underTab (zeroRunO Z) (zd := .held zeroO) (zp := []) rfl (keyOf_str hs)
    have hv2 := optR_inv hv
    rw [hat] at hv2
    obtain rfl : zeroO = v := DataW.held.inj hv2
    rw [Maps.has_false_of_atKey hat] at hrun
    exact hrun
/-- What find tells: an option that can be set, or an error. -/
structure Fnd (w : World) (sc id : Int) (k : ByteArray) (e : Ending) (w' : World) : Prop where
  below : Below w.heap.size w w'
  told : (∃ r g cap b, rowO k = some r ∧ placeF sc id k = 0 ∧ w.heap.size ≤ b ∧ KindAt w' b r.kd (.agg #[.func (.func g) #[] cap, .bool (isTxt r.kd), .bool (isFlag r.kd)]) ∧ e = .returned (.tuple #[.agg #[.int .i64 r.scope, .func (.func g) #[] cap, .bool (isTxt r.kd), .bool (isFlag r.kd), .string r.first], .int .i64 0])) ∨
    (placeF sc id k ≠ 0 ∧ e = .returned (.tuple #[.agg #[.int .i64 0, .nilFunc, .bool false, .bool false, .string ⟨#[]⟩], .int .i64 (placeF sc id k)]))
end Go.Proofs.YtgdkpmfdpfjdjaaGreatDoor
