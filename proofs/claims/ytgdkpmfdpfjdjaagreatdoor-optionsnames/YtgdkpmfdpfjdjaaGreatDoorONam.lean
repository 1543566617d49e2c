/-
  Options: all names.
-/
import Derived.Test.YtgdkpmfdpfjdjaaGreatDoorOIt
import Derived.Test.YtgdkpmfdpfjdjaaGreatDoorOScp
namespace Go.Proofs.YtgdkpmfdpfjdjaaGreatDoor
open Go.RowKit Go.Maps Go.Sort
set_option linter.unusedVariables false
set_option maxRecDepth 100000

theorem tabD_perm (l : List (ByteArray × Value)) : (l.map Prod.fst).Nodup → ∃ es, tabD l = .map es ∧ es.Perm (l.map fun x => (Lit.string x.1.data.toList, DataW.held x.2)) := by
  refine rows_rec (P := fun l => (l.map Prod.fst).Nodup → ∃ es, tabD l = .map es ∧ es.Perm (l.map fun x => (Lit.string x.1.data.toList, DataW.held x.2))) (fun _ => ⟨[], rfl, List.Perm.nil⟩) (fun l x ih h => ?_) l
  rw [List.map_append, List.nodup_append] at h
  obtain ⟨es, e, hp⟩ := ih h.1
  rw [tabD_snoc, e]
  refine ⟨_, DataW.put_eq es _ _, ?_⟩
  unfold ChangeMaps.putKey
  refine (WideShapes.insert_perm _ _).trans ?_
  have hf : es.filter (ChangeMaps.notKey (.string x.1.data.toList)) = es := List.filter_eq_self.2 fun p hp' => by
    obtain ⟨y, hy, rfl⟩ := List.mem_map.1 (hp.mem_iff.1 hp')
    refine (ChangeMaps.notKey_iff ⟨_, rfl⟩ ⟨_, rfl⟩).2 fun e => ?_
    exact h.2.2 _ (List.mem_map_of_mem hy) _ (List.mem_map_of_mem (List.mem_singleton_self x)) (lit_inj e)
  rw [hf, List.map_append]
  exact (hp.cons _).trans (List.perm_append_singleton _ _).symm
theorem strKeys_tab {l : List (ByteArray × Value)} (h : (l.map Prod.fst).Nodup) : (strKeys (tabD l)).Perm ((l.map Prod.fst).map fun s => s.data.toList) ∧ Maps.size (tabD l) = l.length := by
  obtain ⟨es, e, hp⟩ := tabD_perm l h
  rw [e]
  refine ⟨?_, ?_⟩
  · have := hp.map fun p => strOf p.1
    rw [List.map_map] at this
    rw [List.map_map]
    exact this
  · rw [Maps.size_eq, hp.length_eq, List.length_map]
/-- The names' bytes. -/
def namesL : List (List UInt8) := rowsO.map fun r => r.name.data.toList
theorem namesL_sorted : namesL.Pairwise fun a b => leB a b = true := by decide
theorem namesL_sort : namesL.mergeSort leB = namesL := List.mergeSort_of_pairwise namesL_sorted
set_option maxHeartbeats 4000000 in
theorem names_any (w : World) : Calls Tryz.prog 7 #[] w fun e w' => ∃ v, e = .returned v ∧ w'.ownsRow w.heap.size 9 1 v 22 (namesL.map encStr) ∧ Below w.heap.size w w' := by
  refine (callsIn_wide (n := 6)).1 ?_
  have hfK : Fence.wide.fn 19 := trivial
  have hfS : Fence.wide.fn 18 := trivial
  have hfT : Fence.wide.fn 20 := trivial
  refine callsIn_of_wp Tryz.func7 rfl trivial ?_ rfl
  simp only [Tryz.ntmps7, List.size_toArray, List.length_nil, Nat.reduceSub, Array.replicate_succ, Array.replicate_zero, List.push_toArray, List.append_toArray, List.nil_append, List.cons_append]
  gi_wp2_with fail
  refine (callsIn_wide.2 table_any).mono ?_
  rintro e Y ⟨l, rfl, hT⟩
  have hlen0 : l.length = rowsO.length := by have := congrArg List.length hT.names; simpa using this
  have hlen : l.length = 22 := hlen0.trans (by decide)
  obtain ⟨hk, hsz⟩ := strKeys_tab (l := l) (by rw [hT.names]; exact names_nodup)
  rw [hT.names] at hk
  have hown := hT.own
  have HB := hidK hT.below
  have HK := hidK hk
  have hmax : Maps.size (tabD l) ≤ maxLen := by rw [hsz, hlen]; decide
  have hbytes : Maps.size (tabD l) * 16 ≤ 140737488355328 := by rw [hsz, hlen]; decide
  clear hT hk hsz hlen hlen0
  gi_wp2_with (first
    | (gi_at_call 19; refine (Tryz.maps_Keys_19 _ _).mono ?_; rintro e w' ⟨rfl, rfl⟩)
    | (gi_at_call 18; refine (Tryz.slices_Sorted_keys_18_19 w.heap.size _ (tabD l) optR Y hown hmax hbytes).mono ?_; rintro e w' ⟨v, ss, rfl, hS, hrow, hnil, hb⟩))
  go_ret
  have hp : ss.Perm namesL := hS.trans (by
    have := HK.out
    rw [List.map_map] at this
    exact this)
  have hm : ss.mergeSort leB = namesL := (mergeSort_of_perm hp).trans namesL_sort
  have hl : ss.length = 22 := hp.length_eq.trans (by decide)
  rw [hm, hl] at hrow
  have hsize : w.heap.size ≤ Y.heap.size := HB.out.size
  refine ⟨v, rfl, ownsRow_base_a hrow ?_, ?_⟩
  · rw [World.size_alloc]; omega
  · exact HB.out.trans ((((Below.refl _ Y).alloc (Nat.le_refl _) _).trans (hb.mono (by rw [World.size_alloc]; omega))).mono hsize)
end Go.Proofs.YtgdkpmfdpfjdjaaGreatDoor
