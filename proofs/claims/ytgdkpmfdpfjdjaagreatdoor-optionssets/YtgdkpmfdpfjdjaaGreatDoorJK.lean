/-
  Options: all names.
  Options: lists of names; the document's Names; the law's num, sameTexts.
  Options: sure.
-/
import Derived.Test.YtgdkpmfdpfjdjaaGreatDoorHI
import Derived.Test.YtgdkpmfdpfjdjaaGreatDoorOScp
import Derived.Test.YtgdkpmfdpfjdjaaGreatDoorOEnA
import Derived.Test.YtgdkpmfdpfjdjaaGreatDoorJJ
import Derived.Test.YtgdkpmfdpfjdjaaGreatDoorOTb
import Derived.Test.YtgdkpmfdpfjdjaaGreatDoorJE
import Derived.Test.YtgdkpmfdpfjdjaaGreatDoorJL
import Derived.Deep.RegionHeld3
namespace Go.Proofs.YtgdkpmfdpfjdjaaGreatDoor
open Go.RowKit Go.Maps Go.Sort
set_option linter.unusedVariables false
set_option maxRecDepth 100000

theorem tabD_perm (l : List (ByteArray × Value)) : (l.map Prod.fst).Nodup → ∃ es, tabD l = .map es ∧ es.Perm (l.map fun x => (Lit.string x.1.data.toList, DataW.held x.2)) := by
  refine rows_rec (P := fun l => (l.map Prod.fst).Nodup → ∃ es, tabD l = .map es ∧ es.Perm (l.map fun x => (Lit.string x.1.data.toList, DataW.held x.2))) (fun _ => ⟨[], rfl, List.Perm.nil⟩) (fun l x ih h => ?_) l
  rw [List.map_append, List.nodup_append] at h
  obtain ⟨es, e, hp⟩ := ih h.1
  rw [tabD_snoc, e]
  refine ⟨_, DataW.put_eq es _ _, ?_⟩
  unfold ChangeMaps.putKey
  refine (WideShapes.insert_perm _ _).trans ?_
  have hf : es.filter (ChangeMaps.notKey (.string x.1.data.toList)) = es := List.filter_eq_self.2 fun p hp' => by
    obtain ⟨y, hy, rfl⟩ := List.mem_map.1 (hp.mem_iff.1 hp')
    refine (ChangeMaps.notKey_iff ⟨_, rfl⟩ ⟨_, rfl⟩).2 fun e => ?_
    exact h.2.2 _ (List.mem_map_of_mem hy) _ (List.mem_map_of_mem (List.mem_singleton_self x)) (lit_inj e)
  rw [hf, List.map_append]
  exact (hp.cons _).trans (List.perm_append_singleton _ _).symm
theorem strKeys_tab {l : List (ByteArray × Value)} (h : (l.map Prod.fst).Nodup) : (strKeys (tabD l)).Perm ((l.map Prod.fst).map fun s => s.data.toList) ∧ Maps.size (tabD l) = l.length := by
  obtain ⟨es, e, hp⟩ := tabD_perm l h
  rw [e]
  refine ⟨?_, ?_⟩
  · have := hp.map fun p => strOf p.1
    rw [List.map_map] at this
    rw [List.map_map]
    exact this
  · rw [Maps.size_eq, hp.length_eq, List.length_map]
/-- The names' bytes. -/
def namesL : List (List UInt8) := rowsO.map fun r => r.name.data.toList
theorem namesL_sorted : namesL.Pairwise fun a b => leB a b = true := by decide
theorem namesL_sort : namesL.mergeSort leB = namesL := List.mergeSort_of_pairwise namesL_sorted
set_option maxHeartbeats 4000000 in
theorem names_any (w : World) : Calls Tryz.prog 7 #[] w fun e w' => ∃ v, e = .returned v ∧ w'.ownsRow w.heap.size 9 1 v 22 (namesL.map encStr) ∧ Below w.heap.size w w' := by
  refine (callsIn_wide (n := 6)).1 ?_
  have hfK : Fence.wide.fn 19 := trivial
  have hfS : Fence.wide.fn 18 := trivial
  have hfT : Fence.wide.fn 20 := trivial
  refine callsIn_of_wp Tryz.func7 rfl trivial ?_ rfl
  simp only [Tryz.ntmps7, List.size_toArray, List.length_nil, Nat.reduceSub, Array.replicate_succ, Array.replicate_zero, List.push_toArray, List.append_toArray, List.nil_append, List.cons_append]
  gi_wp2_with fail
  refine (callsIn_wide.2 table_any).mono ?_
  rintro e Y ⟨l, rfl, hT⟩
  have hlen0 : l.length = rowsO.length := by have := congrArg List.length hT.names; simpa using this
  have hlen : l.length = 22 := hlen0.trans (by decide)
  obtain ⟨hk, hsz⟩ := strKeys_tab (l := l) (by rw [hT.names]; exact names_nodup)
  rw [hT.names] at hk
  have hown := hT.own
  have HB := hidK hT.below
  have HK := hidK hk
  have hmax : Maps.size (tabD l) ≤ maxLen := by rw [hsz, hlen]; decide
  have hbytes : Maps.size (tabD l) * 16 ≤ 140737488355328 := by rw [hsz, hlen]; decide
  clear hT hk hsz hlen hlen0
  gi_wp2_with (first
    | (gi_at_call 19; refine (Tryz.maps_Keys_19 _ _).mono ?_; rintro e w' ⟨rfl, rfl⟩)
    | (gi_at_call 18; refine (Tryz.slices_Sorted_keys_18_19 w.heap.size _ (tabD l) optR Y hown hmax hbytes).mono ?_; rintro e w' ⟨v, ss, rfl, hS, hrow, hnil, hb⟩))
  go_ret
  have hp : ss.Perm namesL := hS.trans (by
    have := HK.out
    rw [List.map_map] at this
    exact this)
  have hm : ss.mergeSort leB = namesL := (mergeSort_of_perm hp).trans namesL_sort
  have hl : ss.length = 22 := hp.length_eq.trans (by decide)
  rw [hm, hl] at hrow
  have hsize : w.heap.size ≤ Y.heap.size := HB.out.size
  refine ⟨v, rfl, ownsRow_base_a hrow ?_, ?_⟩
  · rw [World.size_alloc]; omega
  · exact HB.out.trans ((((Below.refl _ Y).alloc (Nat.le_refl _) _).trans (hb.mono (by rw [World.size_alloc]; omega))).mono hsize)
end Go.Proofs.YtgdkpmfdpfjdjaaGreatDoor

namespace Go.Proofs.YtgdkpmfdpfjdjaaGreatDoor
open Go.RowKit Go.Maps Go.Sort
set_option linter.unusedVariables false
set_option maxRecDepth 100000

/-- A list of texts that is one's own. -/
def NamsAt (w : World) (B : Nat) (v : Value) (l : List ByteArray) : Prop := w.ownsRow B 9 1 v l.length (l.map Value.string)
theorem NamsAt.nil (w : World) (B : Nat) : NamsAt w B (.slice none 0 0) [] := World.ownsRow_nil w B _ _
theorem NamsAt.keep {w w' : World} {B : Nat} {v : Value} {l : List ByteArray} (h : NamsAt w B v l) (hk : ∀ g, v.ownBlock = some g → w'.heap[g]? = w.heap[g]?) : NamsAt w' B v l := by
  refine ⟨h.1, ?_⟩
  rcases h.2 with h0 | ⟨g, cap, cur, rfl, hb, hg, r⟩
  · exact .inl h0
  · exact .inr ⟨g, cap, cur, rfl, hb, (hk g rfl).trans hg, r⟩
theorem NamsAt.blk {w : World} {B : Nat} {v : Value} {l : List ByteArray} (h : NamsAt w B v l) {g : Nat} (hg : v.ownBlock = some g) : B ≤ g ∧ ∃ cur, w.heap[g]? = some (.cells cur 9 (0, 0)) := by
  rcases h.2 with ⟨e, _⟩ | ⟨g', cap, cur, e, hb, hk, _⟩
  · rw [e] at hg; cases hg
  · rw [e] at hg; cases hg
    exact ⟨hb, cur, hk⟩
theorem NamsAt.below {w w' : World} {B : Nat} {v : Value} {l : List ByteArray} (h : NamsAt w B v l) (hb : Below w.heap.size w w') : NamsAt w' B v l := h.keep fun g hg => by
  obtain ⟨_, cur, hk⟩ := h.blk hg
  exact hb.block g (lt_block hk)
theorem infoStrN : (Tryz.prog.info? 9).map (fun i => (i.zero, i.size, i.bytes)) = some (some (.string ⟨#[]⟩), 1, 16) := by kernel_rfl
theorem underStrs : Tryz.prog.underlying 22 = some (.slice 9) := by kernel_rfl
/-- A list of texts that can be read. -/
def SeeN (w : World) (v : Value) (l : List ByteArray) : Prop := ∃ ad cp, v = .slice ad l.length cp ∧ (l ≠ [] → ∃ g o, ad = some ⟨g, o, none⟩ ∧ ∀ j (hj : j < l.length), w.cell? ⟨g, o + j, none⟩ = some (.string l[j]))
theorem SeeN.below {w w' : World} {v : Value} {l : List ByteArray} (h : SeeN w v l) (hb : Below w.heap.size w w') : SeeN w' v l := by
  obtain ⟨a, c, rfl, hc⟩ := h
  refine ⟨a, c, rfl, fun hne => ?_⟩
  obtain ⟨g, o, rfl, hcell⟩ := hc hne
  refine ⟨g, o, rfl, fun j hj => ?_⟩
  have h1 := hcell j hj
  exact (hb.cell (World.block_lt_of_cell? w _ h1)).trans h1
theorem NamsAt.see {w : World} {B : Nat} {v : Value} {l : List ByteArray} (h : NamsAt w B v l) : SeeN w v l := by
  rcases h.2 with ⟨e, h0⟩ | ⟨g, cap, cur, e, hb, hk, h1, h2, h3, h4⟩
  · have : l = [] := List.length_eq_zero_iff.1 h0
    subst this
    exact ⟨_, _, e, fun h => absurd rfl h⟩
  · subst e
    refine ⟨_, _, rfl, fun _ => ⟨g, 0, rfl, fun j hj => ?_⟩⟩
    have := World.ownsRow.cells h (g := g) rfl j (.string l[j]) (by simp)
    rw [addB, Nat.zero_add] at this
    rw [Nat.zero_add]
    exact this
/-- A text is appended. -/
theorem wpList_append_nam (w : World) {ops : Array Oper} {rest : List Oper} {o : Oper} {a : Act} {Q : Exit → Act → World → Prop} (hgd : o.guard = none) (s x : Operand)
    (ho : o.op = .call { callee := .builtin .append, args := #[s, x], argTypes := #[22, 22] })
    (B : Nat) (v : Value) (l : List ByteArray) (hs : a.eval s = v) (hown : NamsAt w B v l) (G : Nat) (e : ByteArray) (hx : a.eval x = .slice (some ⟨G, 0, none⟩) 1 1) (hG : w.heap[G]? = some (.cells #[.string e] 9 (0, 0)))
    (hlen : l.length ≤ 20000000) (hbase : B ≤ w.heap.size)
    (h : ∀ v' w', NamsAt w' B v' (l ++ [e]) → w.grownBy w' v.ownBlock → wpList Tryz.prog ops Q rest (a.put o.dst v') w') : wpList Tryz.prog ops Q (o :: rest) a w := by
  obtain ⟨i0, hi, hz0, hz1, hz2⟩ := info_parts infoStrN
  refine wpList_append_own w hgd s x 22 ho B 9 i0 (.string ⟨#[]⟩) 1 16 underStrs hi hz0 hz1 hz2 rfl (by decide) v l.length (l.map Value.string) hs hown ⟨G, 0, none⟩ 1 1 [.string e] hx rfl ?_ ?_ (by unfold maxLen; omega) (by omega) hbase ?_
  · intro j u hu
    rw [addB, Nat.zero_add, cell_at hG j]
    match j, hu with
    | 0, hu => exact hu
    | j + 1, hu => simp at hu
  · intro u hu
    simp only [List.mem_singleton] at hu
    subst hu
    rfl
  · intro v' w' h2 h3 _
    refine h v' w' ?_ h3
    unfold NamsAt
    rw [List.length_append, List.map_append]
    simpa using h2
theorem NamsAt.base {w : World} {B B' : Nat} {v : Value} {l : List ByteArray} (h : NamsAt w B v l) (hb : B' ≤ B) : NamsAt w B' v l := by
  refine ⟨h.1, ?_⟩
  rcases h.2 with h0 | ⟨g, cap, cur, e, hB, r⟩
  · exact .inl h0
  · exact .inr ⟨g, cap, cur, e, Nat.le_trans hb hB, r⟩
def namesO : List ByteArray := rowsO.map Orow.name
theorem names_enc : namesL.map encStr = namesO.map Value.string := by kernel_rfl
theorem names_len : namesO.length = 22 := by decide
theorem nams_own {w : World} {B : Nat} {v : Value} (h : w.ownsRow B 9 1 v 22 (namesL.map encStr)) : NamsAt w B v namesO := by
  unfold NamsAt
  rw [names_len, ← names_enc]
  exact h
theorem SeeN.cells {w : World} {ad : Option Addr} {n cp : Nat} {l : List ByteArray} (h : SeeN w (.slice ad n cp) l) {k : Nat} (hk : k < l.length) : ∃ g o, ad = some ⟨g, o, none⟩ ∧ ∀ Y, Below w.heap.size w Y → Y.cell? ⟨g, o + k, none⟩ = some (.string l[k]) := by
  obtain ⟨a, c, e, hc⟩ := h
  cases e
  obtain ⟨g, o, rfl, hcell⟩ := hc (fun e => by rw [e] at hk; simp at hk)
  exact ⟨g, o, rfl, fun Y hY => (hY.cell (World.block_lt_of_cell? w _ (hcell k hk))).trans (hcell k hk)⟩
theorem SeeN.shape' {w : World} {v : Value} {l : List ByteArray} (h : SeeN w v l) : ∃ a c, v = .slice a l.length c := by
  obtain ⟨a, c, rfl, _⟩ := h
  exact ⟨_, _, rfl⟩
theorem num_any (e : Int) (w : World) : Calls Tryz.prog 13 #[.int .i64 e] w fun r w' => r = .returned (.int .i64 e) ∧ w = w' := by
  go_enter Tryz.func13, Tryz.ntmps13
  go_wp2_with fail
  go_ret
  exact ⟨rfl, rfl⟩
set_option maxHeartbeats 8000000 in
theorem sameTexts_any {w : World} {va vb : Value} {l : List ByteArray} (ha : SeeN w va l) (hb : SeeN w vb l) (hlen : l.length ≤ 1000000) : Calls Tryz.prog 8 #[va, vb] w fun r w' => r = .returned (.bool true) ∧ Below w.heap.size w w' := by
  obtain ⟨aa, ca, rfl⟩ := ha.shape'
  obtain ⟨ab, cb, rfl⟩ := hb.shape'
  have HA := hidK (fun k (hk : k < l.length) => ha.cells hk)
  have HB := hidK (fun k (hk : k < l.length) => hb.cells hk)
  obtain ⟨n, hn⟩ : ∃ n, l.length = n := ⟨_, rfl⟩
  have HN := hidK hn
  rw [hn] at hlen ⊢
  clear hn ha hb
  go_enter Tryz.func8, Tryz.ntmps8
  go_wp2_with fail
  go_loopw [5] (fun i wr => ∃ k : Nat, k ≤ n ∧ i = .int .i64 k ∧ Hid (Below w.heap.size w wr)) (fun i _ => n - (intOf i).toNat)
  case atStart => exact ⟨0, Nat.zero_le _, rfl, Below.refl _ _⟩
  case round =>
    obtain ⟨k, hk, rfl, HW⟩ := hrel
    by_cases hlt : k < n
    · have hkl : k < l.length := by rw [HN.out]; exact hlt
      obtain ⟨g1, o1, rfl, h1⟩ := HA.out k hkl
      obtain ⟨g2, o2, rfl, h2⟩ := HB.out k hkl
      obtain ⟨x, hx⟩ : ∃ q, l[k] = q := ⟨_, rfl⟩
      rw [hx] at h1 h2
      have HSx : Hid (∀ X, Below w.heap.size w X → X.cell? ⟨g1, o1 + k, none⟩ = some (.string x) ∧ X.cell? ⟨g2, o2 + k, none⟩ = some (.string x)) := fun X hX => ⟨h1 X hX, h2 X hX⟩
      have hi1 : (k : Int) < (n : Int) := by omega
      have he1 : (x.toList == x.toList) = true := by simp
      clear h1 h2 hx hkl
      go_wp2_with fail
      refine wp_region_held_drew (S := (fun X => X.cell? ⟨g1, o1 + k, none⟩ = some (.string x) ∧ X.cell? ⟨g2, o2 + k, none⟩ = some (.string x))) (by kernel_rfl) ?sP (fun hHeld => ?_)
      case sP => ((try dsimp only); first | exact HSx.out _ HW.out | exact HSx.out _ HW.out.drew)
      refine wpAnyH_take (i := 0) (oi := { dst := some 17, op := Op.move (Operand.tmp 0), type := 22, pos := "law.go:46", after := #[], guard := none }) (v := ?vP0n1) rfl (by kernel_rfl) (by kernel_rfl) (by kernel_rfl) (fun _ _ _ h => h) (Or.inl ⟨by rfl, ?yP0n1⟩) (by assumption) ?rP0n1
      case yP0n1 => (intro w hSw; (try dsimp only at hSw); first | (go_simp; done) | (go_simp; with_reducible rfl))
      try simp only [Act.put, List.setIfInBounds_toArray, List.set_cons_zero, List.set_cons_succ]
      refine wpAnyH_take (i := 1) (oi := { dst := some 18, op := Op.move (Operand.tmp 5), type := 3, pos := "law.go:46", after := #[], guard := none }) (v := ?vP1n2) rfl (by kernel_rfl) (by kernel_rfl) (by kernel_rfl) (fun _ _ _ h => h) (Or.inl ⟨by rfl, ?yP1n2⟩) (by assumption) ?rP1n2
      case yP1n2 => (intro w hSw; (try dsimp only at hSw); first | (go_simp; done) | (go_simp; with_reducible rfl))
      try simp only [Act.put, List.setIfInBounds_toArray, List.set_cons_zero, List.set_cons_succ]
      refine wpAnyH_take (i := 2) (oi := { dst := some 19, op := Op.indexAddr 22 (Operand.tmp 17) (Operand.tmp 18), type := 0, pos := "law.go:46", after := #[{ on := 0, ground := Ground.data }, { on := 1, ground := Ground.data }], guard := none }) (v := ?vP2n3) rfl (by kernel_rfl) (by kernel_rfl) (by kernel_rfl) (fun _ _ _ h => h) (Or.inl ⟨by rfl, ?yP2n3⟩) (by assumption) ?rP2n3
      case yP2n3 => (intro w hSw; (try dsimp only at hSw); first | (go_simp; done) | (go_simp; with_reducible rfl))
      try simp only [Act.put, List.setIfInBounds_toArray, List.set_cons_zero, List.set_cons_succ]
      refine wpAnyH_take (i := 3) (oi := { dst := some 20, op := Op.load 9 (Operand.tmp 19), type := 9, pos := "law.go:46", after := #[{ on := 2, ground := Ground.data }], guard := none }) (v := ?vP3n4) rfl (by kernel_rfl) (by kernel_rfl) (by kernel_rfl) (fun _ _ _ h => h) (Or.inl ⟨by rfl, ?yP3n4⟩) (by assumption) ?rP3n4
      case yP3n4 => (intro w hSw; (try dsimp only at hSw); first | (go_simp; done) | (go_simp; with_reducible rfl))
      try simp only [Act.put, List.setIfInBounds_toArray, List.set_cons_zero, List.set_cons_succ]
      refine wpAnyH_take (i := 4) (oi := { dst := some 21, op := Op.move (Operand.tmp 1), type := 22, pos := "law.go:46", after := #[], guard := none }) (v := ?vP4n5) rfl (by kernel_rfl) (by kernel_rfl) (by kernel_rfl) (fun _ _ _ h => h) (Or.inl ⟨by rfl, ?yP4n5⟩) (by assumption) ?rP4n5
      case yP4n5 => (intro w hSw; (try dsimp only at hSw); first | (go_simp; done) | (go_simp; with_reducible rfl))
      try simp only [Act.put, List.setIfInBounds_toArray, List.set_cons_zero, List.set_cons_succ]
      refine wpAnyH_take (i := 5) (oi := { dst := some 22, op := Op.move (Operand.tmp 5), type := 3, pos := "law.go:46", after := #[], guard := none }) (v := ?vP5n6) rfl (by kernel_rfl) (by kernel_rfl) (by kernel_rfl) (fun _ _ _ h => h) (Or.inl ⟨by rfl, ?yP5n6⟩) (by assumption) ?rP5n6
      case yP5n6 => (intro w hSw; (try dsimp only at hSw); first | (go_simp; done) | (go_simp; with_reducible rfl))
      try simp only [Act.put, List.setIfInBounds_toArray, List.set_cons_zero, List.set_cons_succ]
      refine wpAnyH_take (i := 6) (oi := { dst := some 23, op := Op.indexAddr 22 (Operand.tmp 21) (Operand.tmp 22), type := 0, pos := "law.go:46", after := #[{ on := 4, ground := Ground.data }, { on := 5, ground := Ground.data }], guard := none }) (v := ?vP6n7) rfl (by kernel_rfl) (by kernel_rfl) (by kernel_rfl) (fun _ _ _ h => h) (Or.inl ⟨by rfl, ?yP6n7⟩) (by assumption) ?rP6n7
      case yP6n7 => (intro w hSw; (try dsimp only at hSw); first | (go_simp; done) | (go_simp; with_reducible rfl))
      try simp only [Act.put, List.setIfInBounds_toArray, List.set_cons_zero, List.set_cons_succ]
      refine wpAnyH_take (i := 7) (oi := { dst := some 24, op := Op.load 9 (Operand.tmp 23), type := 9, pos := "law.go:46", after := #[{ on := 6, ground := Ground.data }], guard := none }) (v := ?vP7n8) rfl (by kernel_rfl) (by kernel_rfl) (by kernel_rfl) (fun _ _ _ h => h) (Or.inl ⟨by rfl, ?yP7n8⟩) (by assumption) ?rP7n8
      case yP7n8 => (intro w hSw; (try dsimp only at hSw); first | (go_simp; done) | (go_simp; with_reducible rfl))
      try simp only [Act.put, List.setIfInBounds_toArray, List.set_cons_zero, List.set_cons_succ]
      refine wpAnyH_take (i := 8) (oi := { dst := some 25, op := Op.binOp BinOp.neq 9 (Operand.tmp 20) (Operand.tmp 24) 9, type := 4, pos := "law.go:46", after := #[{ on := 3, ground := Ground.data }, { on := 7, ground := Ground.data }], guard := none }) (v := ?vP8n9) rfl (by kernel_rfl) (by kernel_rfl) (by kernel_rfl) (fun _ _ _ h => h) (Or.inl ⟨by rfl, ?yP8n9⟩) (by assumption) ?rP8n9
      case yP8n9 => (intro w hSw; (try dsimp only at hSw); first | (go_simp; done) | (go_simp; with_reducible rfl))
      try simp only [Act.put, List.setIfInBounds_toArray, List.set_cons_zero, List.set_cons_succ]
      refine wpAnyH_done (by kernel_rfl) ?_ _
      go_wp2_with fail
      go_roundw
      case rel => exact ⟨k + 1, by omega, by go_num, HW.out.drew⟩
      case measure => simp [intOf]; omega
    · have hi1 : ¬ (k : Int) < (n : Int) := by omega
      go_wp2_with fail
      go_ret
      exact ⟨rfl, HW.out⟩
set_option maxHeartbeats 8000000 in
theorem rNames_any (w : World) : Calls Tryz.prog 9 #[] w fun e w' => ∃ v, e = .returned v ∧ NamsAt w' w.heap.size v namesO ∧ Below w.heap.size w w' := by
  have HR := hidK (rows_any w)
  obtain ⟨h0, hh0⟩ : ∃ h, w.heap.size = h := ⟨_, rfl⟩
  have Hh := hidK hh0
  rw [hh0] at HR
  clear hh0
  go_enter Tryz.func9, Tryz.ntmps9
  go_wp2_with fail
  refine HR.out.mono ?_
  rintro e Y ⟨rfl, hd, hb⟩
  have HD := hidK hd
  have HB : Hid (Below w.heap.size w Y) := by show Below _ _ _; rw [Hh.out]; exact hb
  clear hd hb HR
  go_wp2_with fail
  go_loopw [1, 3] (fun lv iv wr => ∃ k : Nat, k ≤ 22 ∧ iv = .int .i64 k ∧ Hid (Below Y.heap.size Y wr) ∧ Hid (NamsAt wr Y.heap.size lv (namesO.take k))) (fun _ iv _ => 22 - (intOf iv).toNat)
  case atStart => exact ⟨0, Nat.zero_le _, rfl, Below.refl _ _, NamsAt.nil _ _⟩
  case round =>
    obtain ⟨k, hk, rfl, HW, HO⟩ := hrel
    by_cases hlt : k < 22
    · have i1 : (k : Int) < 22 := by omega
      have hkr : k < rowsO.length := by rw [rows_22]; exact hlt
      obtain ⟨kb, lo, hi', ad, m, hu⟩ := docV_is (wpO h0 k) (rowsO[k]'hkr)
      have g0 := (HD.out.below HW.out).cell hkr (c := 0) (by decide)
      rw [hu] at g0
      simp only [List.getElem?_cons_zero, Nat.add_zero] at g0
      have hkn : k < namesO.length := by rw [names_len]; exact hlt
      have ht := List.take_succ_eq_append_getElem hkn
      have he : namesO[k]'hkn = (rowsO[k]'hkr).name := List.getElem_map _
      rw [he] at ht
      obtain ⟨x, hx⟩ : ∃ x, (rowsO[k]'hkr).name = x := ⟨_, rfl⟩
      rw [hx] at g0 ht
      have HT := hidK ht
      have hle : (namesO.take k).length ≤ 22 := by have := List.length_take_le k namesO; have := names_len; omega
      clear hu hkn ht he hx hkr
      go_wp2_with (at_builtin; refine wpList_append_nam _ rfl (.tmp 11) (.tmp 17) rfl Y.heap.size _ (namesO.take k) rfl (HO.out.below ((Below.refl _ _).alloc (Nat.le_refl _) _)) wr.heap.size x rfl (heap_alloc_new wr _) ?x1 ?x2 ?_; (case x1 => omega); (case x2 => have h1 := HW.out.size; simp; omega); intro v6 w6 ho6 hg6; have HO6 := hidK ho6; have HG6 : Hid (Below Y.heap.size Y w6) := (HW.out.alloc HW.out.size _).grown hg6 (by have h1 := HW.out.size; simp; omega) (fun j hj => (HO.out.blk hj).1); clear ho6 hg6)
      go_roundw
      case rel => exact ⟨k + 1, by omega, by go_num, HG6.out, by rw [HT.out]; exact HO6.out⟩
      case measure => simp [intOf]; omega
    · have i1 : ¬ (k : Int) < 22 := by omega
      have HT : Hid (namesO.take k = namesO) := List.take_of_length_le (by rw [names_len]; omega)
      go_wp2_with fail
      go_ret
      refine ⟨_, rfl, ?_, bst HB.out HW.out⟩
      have h := HO.out
      rw [HT.out] at h
      exact h.base HB.out.size
end Go.Proofs.YtgdkpmfdpfjdjaaGreatDoor

namespace Go.Proofs.YtgdkpmfdpfjdjaaGreatDoor
open Go.RowKit Go.Maps
set_option linter.unusedVariables false
set_option maxRecDepth 100000

def pfx : ByteArray := ⟨#[112, 114, 101, 102, 105, 120]⟩
def cb : ByteArray := ⟨#[67, 45, 98]⟩
def mx : ByteArray := ⟨#[77, 45, 120]⟩
theorem pfx_row : rowO pfx = some ⟨pfx, 2, .key, cb⟩ := by kernel_rfl
theorem sure_get : getF [] pfx 1 1 1 = (cb, 0) := by kernel_rfl
theorem sure_read : (readF [77, 45, 120]).isSome = true := by kernel_rfl
theorem sure_set : setF [] 2 1 pfx mx = ([⟨2, 1, pfx, mx⟩], 0) := by
  rw [setF_ok pfx_row (by kernel_rfl)]
  unfold putF
  have hc : checkF .key mx = 0 := by rw [checkF_val rfl]; unfold valB; rw [show mx.data.toList = [77, 45, 120] from rfl, sure_read]; rfl
  rw [hc, if_neg (by simp), if_neg (by simp)]
  rfl
theorem sure_get2 : getF [⟨2, 1, pfx, mx⟩] pfx 1 0 0 = (mx, 0) := by kernel_rfl
theorem sure_get3 : getF [⟨2, 1, pfx, mx⟩] pfx 2 0 0 = (cb, 0) := by kernel_rfl
theorem pfx_wf : keyWf 2 1 pfx := ⟨by decide, by decide, by decide⟩
theorem sure_scope {w : World} : Calls Tryz.prog 14 #[.string ⟨#[115, 116, 97, 116, 117, 115]⟩] w fun r w' => r = .returned (.int .i64 2) ∧ Below w.heap.size w w' := by
  refine (scope_any ⟨#[115, 116, 97, 116, 117, 115]⟩ (by decide)).mono ?_
  rintro e w' ⟨⟨sc, rfl, (⟨r, hr, hn, rfl⟩ | ⟨hno, rfl⟩)⟩, hb⟩
  · have h : ∀ r ∈ rowsO, r.name = ⟨#[115, 116, 97, 116, 117, 115]⟩ → r.scope = 2 := by decide
    exact ⟨by rw [h r hr hn], hb⟩
  · exact absurd rfl (hno ⟨⟨#[115, 116, 97, 116, 117, 115]⟩, 2, .flag, ⟨#[111, 110]⟩⟩ (by unfold rowsO; simp))
set_option maxHeartbeats 16000000 in
theorem sure_any {w : World} (hE : Env w) : Calls Tryz.prog 16 #[] w fun e w' => e = .returned (.bool true) ∧ Below w.heap.size w w' := by
  have HNw := hidK (new_any w)
  obtain ⟨d, hd⟩ : ∃ d, w.heap.size + 1 = d := ⟨_, rfl⟩
  obtain ⟨b, hb⟩ : ∃ b, w.heap.size = b := ⟨_, rfl⟩
  have Hb := hidK hb
  rw [hd, hb] at HNw
  have HG1 : Hid (∀ W, Tb W d b 0 [] → Calls Tryz.prog 11 #[.pointer (some ⟨d, 0, none⟩), .string ⟨#[112, 114, 101, 102, 105, 120]⟩, .int .i64 1, .int .i64 1, .int .i64 1] W fun e w' => e = .returned (.tuple #[.string ⟨#[67, 45, 98]⟩, .int .i64 0]) ∧ Below W.heap.size W w') := fun W h => by
    refine (get_any h good_nil (nm := pfx) (by decide) (s := 1) (v := 1) (p := 1) (by decide) (by decide) (by decide)).mono ?_
    rintro e w' ⟨h1, h2⟩
    unfold getOut at h1
    rw [sure_get] at h1
    exact ⟨h1, h2⟩
  have HSt : Hid (∀ W, Env W → Tb W d b 0 [] → Calls Tryz.prog 26 #[.pointer (some ⟨d, 0, none⟩), .int .i64 2, .int .i64 1, .string ⟨#[112, 114, 101, 102, 105, 120]⟩, .string ⟨#[77, 45, 120]⟩] W fun e w' => e = .returned (.int .i64 0) ∧ ∃ n', Tn W w' d b n' [⟨2, 1, pfx, mx⟩]) := fun W hW h => by
    refine (set_any h hW good_nil (by decide) pfx_wf mx (by decide)).mono ?_
    rintro e w' hp
    rw [sure_set] at hp
    obtain ⟨n', _, ht⟩ := hp.tn
    exact ⟨hp.told, n', ht⟩
  have hg : Good [⟨2, 1, pfx, mx⟩] := by
    have := good_nil.put (sc := 2) (id := 1) (vl := mx) pfx_row (by decide)
    have e := sure_set
    rw [setF_ok pfx_row (by kernel_rfl)] at e
    rw [e] at this
    exact this
  have HG2 : Hid (∀ W n, Tb W d b n [⟨2, 1, pfx, mx⟩] → Calls Tryz.prog 11 #[.pointer (some ⟨d, 0, none⟩), .string ⟨#[112, 114, 101, 102, 105, 120]⟩, .int .i64 1, .int .i64 0, .int .i64 0] W fun e w' => e = .returned (.tuple #[.string ⟨#[77, 45, 120]⟩, .int .i64 0]) ∧ Below W.heap.size W w') := fun W n h => by
    refine (get_any h hg (nm := pfx) (by decide) (s := 1) (v := 0) (p := 0) (by decide) (by decide) (by decide)).mono ?_
    rintro e w' ⟨h1, h2⟩
    unfold getOut at h1
    rw [sure_get2] at h1
    exact ⟨h1, h2⟩
  have HG3 : Hid (∀ W n, Tb W d b n [⟨2, 1, pfx, mx⟩] → Calls Tryz.prog 11 #[.pointer (some ⟨d, 0, none⟩), .string ⟨#[112, 114, 101, 102, 105, 120]⟩, .int .i64 2, .int .i64 0, .int .i64 0] W fun e w' => e = .returned (.tuple #[.string ⟨#[67, 45, 98]⟩, .int .i64 0]) ∧ Below W.heap.size W w') := fun W n h => by
    refine (get_any h hg (nm := pfx) (by decide) (s := 2) (v := 0) (p := 0) (by decide) (by decide) (by decide)).mono ?_
    rintro e w' ⟨h1, h2⟩
    unfold getOut at h1
    rw [sure_get3] at h1
    exact ⟨h1, h2⟩
  have HE := hidK hE
  have HNm := hidK (fun e W => num_any e W)
  have HSc := hidK (fun W => sure_scope (w := W))
  have n1 : ((⟨#[67, 45, 98]⟩ : ByteArray).toList == [67, 45, 98]) = true := by rw [Lib.toList_data]; rfl
  have n2 : ((⟨#[77, 45, 120]⟩ : ByteArray).toList == [77, 45, 120]) = true := by rw [Lib.toList_data]; rfl
  clear hd hb hE hg
  go_enter Tryz.func16, Tryz.ntmps16
  go_wp2_with fail
  refine HNw.out.mono ?_
  rintro e w1 ⟨rfl, ht1, hb1⟩
  have HT1 := hidK ht1
  have HB1 : Hid (Below w.heap.size w w1) := by show Below _ _ _; rw [Hb.out]; exact hb1
  clear ht1 hb1 HNw
  go_wp2_with fail
  refine (HG1.out _ HT1.out).mono ?_
  rintro e w2 ⟨rfl, hb2⟩
  have HT2 := hidK (HT1.out.more hb2)
  have HB2 := hidK (bst HB1.out hb2)
  clear hb2 HT1 HB1 HG1
  go_wp2_with fail
  refine (HSt.out _ (HE.out.below HB2.out) HT2.out).mono ?_
  rintro e w3 ⟨rfl, n3, ht3⟩
  have HT3 : Hid (Tb w3 d b n3 [⟨2, 1, pfx, mx⟩]) := ht3.tb
  have HB3 : Hid (Below w.heap.size w w3) := ⟨ht3.but.os.trans HB2.out.os, ht3.but.tape.trans HB2.out.tape, ht3.but.output.trans HB2.out.output, Nat.le_trans HB2.out.size ht3.but.size, fun i hi => (ht3.but.block i (Nat.lt_of_lt_of_le hi HB2.out.size) (by have := Hb.out; simp; omega)).trans (HB2.out.block i hi)⟩
  clear ht3 HT2 HB2 HSt
  go_wp2_with fail
  refine (HG2.out _ _ HT3.out).mono ?_
  rintro e w4 ⟨rfl, hb4⟩
  have HT4 := hidK (HT3.out.more hb4)
  have HB4 := hidK (bst HB3.out hb4)
  clear hb4 HT3 HB3 HG2
  go_wp2_with fail
  refine (HG3.out _ _ HT4.out).mono ?_
  rintro e w5 ⟨rfl, hb5⟩
  have HB5 := hidK (bst HB4.out hb5)
  clear hb5 HT4 HB4 HG3
  go_wp2_with (first | (go_at_call 13; refine (HNm.out _ _).mono ?_; rintro e w8 ⟨rfl, hw8⟩; subst hw8) | (go_at_call 14; refine (HSc.out _).mono ?_; rintro e w6 ⟨rfl, hb6⟩; have HB6 := hidK (bst HB5.out hb6); clear hb6))
  go_ret
  exact ⟨rfl, HB6.out⟩
end Go.Proofs.YtgdkpmfdpfjdjaaGreatDoor
