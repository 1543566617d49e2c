/-
  Options: a row of the table, by its name; an option's scope.
-/
import Derived.Test.YtgdkpmfdpfjdjaaGreatDoorOTbQ
namespace Go.Proofs.YtgdkpmfdpfjdjaaGreatDoor
open Go.RowKit Go.Maps
set_option linter.unusedVariables false
set_option maxRecDepth 100000

theorem names_nodup : (rowsO.map Orow.name).Nodup := by decide
theorem Tbl.at {w Y : World} {b : Nat} {l : List (ByteArray × Value)} (h : Tbl w Y b rowsO l) (z : DataW Value) (k : ByteArray) :
    (∃ r ∈ rowsO, r.name = k ∧ ∃ kv, (tabD l).atKey (.string k.data.toList) z = .held (optV r.scope kv r.first) ∧ KindAt Y b r.kd kv) ∨ ((∀ r ∈ rowsO, r.name ≠ k) ∧ (tabD l).atKey (.string k.data.toList) z = z) := by
  by_cases hk : k ∈ rowsO.map Orow.name
  · obtain ⟨i, hi, e⟩ := List.getElem_of_mem hk
    rw [List.length_map] at hi
    rw [List.getElem_map] at e
    obtain ⟨kv, hv, hkd⟩ := h.kinds i hi
    have hlen : l.length = rowsO.length := by have := congrArg List.length h.names; simpa using this
    have hil : i < l.length := by omega
    have hn : l[i].1 = rowsO[i].name := by
      have h1 : (l.map Prod.fst)[i]? = (rowsO.map Orow.name)[i]? := by rw [h.names]
      rw [List.getElem?_map, List.getElem?_map, List.getElem?_eq_getElem hil, List.getElem?_eq_getElem hi] at h1
      exact Option.some.inj h1
    have hx := tabD_some z l (by rw [h.names]; exact names_nodup) l[i] (List.getElem_mem hil)
    rw [List.getElem?_eq_getElem hil] at hv
    have hv2 : l[i].2 = optV rowsO[i].scope kv rowsO[i].first := Option.some.inj hv
    rw [hn, hv2] at hx
    refine .inl ⟨rowsO[i], List.getElem_mem hi, e, kv, ?_, hkd⟩
    rw [← e]
    exact hx
  · refine .inr ⟨fun r hr e => hk (List.mem_map.2 ⟨r, hr, e⟩), tabD_none z k l ?_⟩
    rw [h.names]
    exact hk
theorem KindAt.shape {Y : World} {b : Nat} {k : Kd} {v : Value} (h : KindAt Y b k v) : ∃ f x y, v = .agg #[f, .bool x, .bool y] := by
  cases k with
  | num lo hi => obtain ⟨p, q, e, _⟩ := h; exact ⟨_, _, _, e⟩
  | txt => exact ⟨_, _, _, h⟩
  | key => exact ⟨_, _, _, h⟩
  | flag => obtain ⟨g, ⟨p, e, _⟩, _⟩ := h; exact ⟨_, _, _, e⟩
  | cho ws => obtain ⟨g, ⟨p, e, _⟩, _⟩ := h; exact ⟨_, _, _, e⟩
def zeroO : Value := .agg #[.int .i64 0, .nilFunc, .bool false, .bool false, .string ⟨#[]⟩]
theorem zeroRunO (w : World) : (zeroValue 51).run Tryz.prog w = .ok zeroO w := by kernel_rfl
theorem optR_inv {v : Value} {d : DataW Value} {ps : List MemPlace} (h : optR v = some (d, ps)) : d = .held v := by
  cases h
  rfl
theorem fieldScope (n : Int) (b c d e : Value) (w : World) : (Instr.field 51 (.agg #[.int .i64 n, b, c, d, e]) 0).run Tryz.prog w = .ok (.int .i64 n) w := by
  first
  | rfl
  | simp [Instr.field, Tryz.underlying51]
set_option maxHeartbeats 4000000 in
theorem scope_any {w : World} (k : ByteArray) (hs : k.size ≤ maxLen) : Calls Tryz.prog 14 #[.string k] w fun r w' => (∃ sc : Int, r = .returned (.int .i64 sc) ∧ ((∃ r ∈ rowsO, r.name = k ∧ sc = r.scope) ∨ (∀ r ∈ rowsO, r.name ≠ k) ∧ sc = 0)) ∧ Below w.heap.size w w' := by
  have HS := hidK hs
  have hfs := fieldScope
  clear hs
  go_enter Tryz.func14, Tryz.ntmps14
  go_wp2_with fail
  refine table_any.mono ?_
  rintro e Y ⟨l, rfl, hT⟩
  obtain ⟨v, ps, hrun, hv⟩ := hT.own.lookup strKeyed underTab (zeroRunO Y) (zd := .held zeroO) (zp := []) rfl (keyOf_str HS.out)
  have hv2 := optR_inv hv
  have HB := hidK hT.below
  rcases hT.at (.held zeroO) k with ⟨r, hr, hrn, kv, hat, hk⟩ | ⟨hno, hat⟩
  · obtain ⟨f, x, y, rfl⟩ := hk.shape
    rw [hat] at hv2
    obtain rfl : optV r.scope (.agg #[f, .bool x, .bool y]) r.first = v := DataW.held.inj hv2
    have HR := hidK hr
    have HN := hidK hrn
    clear hT hv hv2 hat hk hr hrn
    change (Instr.lookup _ _ _ _).run _ _ = .ok (.agg #[.int .i64 r.scope, f, .bool x, .bool y, .string r.first]) _ at hrun
    go_wp2_with fail
    go_ret
    exact ⟨⟨_, rfl, .inl ⟨r, HR.out, HN.out, rfl⟩⟩, HB.out⟩
  · rw [hat] at hv2
    obtain rfl : zeroO = v := DataW.held.inj hv2
    have HN := hidK hno
    clear hT hv hv2 hat hno
    unfold zeroO at hrun
    go_wp2_with fail
    go_ret
    exact ⟨⟨0, rfl, .inr ⟨HN.out, rfl⟩⟩, HB.out⟩
end Go.Proofs.YtgdkpmfdpfjdjaaGreatDoor
