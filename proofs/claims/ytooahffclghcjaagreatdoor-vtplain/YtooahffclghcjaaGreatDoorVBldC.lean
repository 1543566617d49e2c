/-
  strings.Builder takes a letter of ASCII.
-/
import Derived.Test.YtooahffclghcjaaGreatDoorVTxt
namespace Go.Proofs.YtooahffclghcjaaGreatDoor
open Go.RowKit
set_option linter.unusedVariables false
set_option maxRecDepth 100000

set_option maxHeartbeats 1000000 in
theorem appendRune_ascii {w : World} {B : Nat} {v : Value} {l : List UInt8} (h : Owns w B v l) (hB : B ≤ w.heap.size) (hlen : l.length + 1 ≤ 140737488355328) (c : UInt8) (hc : c.toNat < 128) :
    Calls Tryz.prog 68 #[v, .int .i32 (c.toNat : Int)] w fun e w' => ∃ v', e = .returned v' ∧ Owns w' B v' (l ++ [c]) ∧ ∃ o, (w.alloc o).grownBy w' v.ownBlock := by
  have H := hidK h
  have hcc : (c.toNat : Int) < 128 := by omega
  have hc2 : (c.toNat : Int) ≤ 127 := by omega
  have hc3 : IntKind.u8.wrap (c.toNat : Int) = (c.toNat : Int) := by rw [IntKind.wrap_u8]; omega
  have hc4 : IntKind.u32.wrap (c.toNat : Int) = (c.toNat : Int) := by rw [IntKind.wrap_u32]; omega
  clear h
  go_enter Tryz.func68, Tryz.ntmps68
  go_wp2_with (at_builtin; refine wpList_append_bytesG (w.alloc (.cells #[.int .u8 (c.toNat : Int)] 5)) rfl (.tmp 8) (.tmp 11) 51 rfl underBy infoB B v l (by simp [Act.eval]) (H.out.alloc _) ⟨w.heap.size, 0, none⟩ 1 1 [c] (by simp [Act.eval]) rfl ?x1 hlen ?x2 ?x3)
  case x1 =>
    intro j hj
    have : j = 0 := by simp at hj; omega
    subst this
    exact cell_at (heap_alloc_new w _) 0
  case x2 => simp; omega
  intro v' w2 hown' hg
  go_wp2_with fail
  go_ret
  exact ⟨_, rfl, hown', _, hg⟩
set_option maxHeartbeats 1000000 in
theorem writeRune_ascii {w : World} {B b o : Nat} {T : TypeId} {cs : Array Value} {v : Value} {l : List UInt8} (h : BuilderIn w B b o T cs v l) (hB : B ≤ w.heap.size) (hlen : l.length + 1 ≤ 140737488355328) (c : UInt8) (hc : c.toNat < 128) :
    Calls Tryz.prog 44 #[.pointer (some ⟨b, o, none⟩), .int .i32 (c.toNat : Int)] w fun e w' => (∃ r, e = .returned r) ∧ ∃ v', BuilderIn w' B b o T ((cs.set! o (.pointer (some ⟨b, o, none⟩))).set! (o + 1) v') v' (l ++ [c]) ∧ But (b :: v.ownBlock.toList) w w' := by
  have HC : Hid (Calls Tryz.prog 67 #[.pointer (some ⟨b, o, none⟩)] w fun e w' => e = .returned (.tuple #[]) ∧ BuilderIn w' B b o T (cs.set! o (.pointer (some ⟨b, o, none⟩))) v l ∧ But [b] w w') := copyCheck_in h
  obtain ⟨ds, hds⟩ : ∃ ds, cs.set! o (.pointer (some ⟨b, o, none⟩)) = ds := ⟨_, rfl⟩
  rw [hds] at HC
  rw [hds]
  have hos : o + 1 < cs.size := (Array.getElem?_eq_some_iff.1 h.buf).1
  have hdz : o + 1 < ds.size := by rw [← hds, Array.set!_eq_setIfInBounds, Array.size_setIfInBounds]; exact hos
  clear h hds hos
  go_enter Tryz.func44, Tryz.ntmps44
  go_wp2_with fail
  refine HC.out.mono ?_
  rintro e w1 ⟨rfl, h1, hb1⟩
  have c1 : w1.cell? ⟨b, o + 1, none⟩ = some v := (cell_at h1.blk (o + 1)).trans h1.buf
  have H1 : Hid (BuilderIn w1 B b o T ds v l) := h1
  have HB1 : Hid (But [b] w w1) := hb1
  have hBw : B ≤ w1.heap.size := Nat.le_trans hB hb1.size
  have HA : Hid (Calls Tryz.prog 68 #[v, .int .i32 (c.toNat : Int)] w1 fun e w' => ∃ v', e = .returned v' ∧ Owns w' B v' (l ++ [c]) ∧ ∃ o, (w1.alloc o).grownBy w' v.ownBlock) := appendRune_ascii h1.own hBw hlen c hc
  obtain ⟨sa, sn, sc, hsv⟩ := owns_slice h1.own
  have hap1 := h1.apart
  clear h1 hb1 HC
  subst hsv
  go_wp2_with fail
  refine HA.out.mono ?_
  rintro e w2 ⟨v', rfl, hown2, ob, hg2⟩
  have hlt := lt_block H1.out.blk
  have h2 : w2.heap[b]? = some (.cells ds T (0, 0)) := (hg2.block b (by simp; omega) (fun e => hap1 e.symm)).trans ((Below.heap_alloc _ _ _ hlt).trans H1.out.blk)
  have f1 := free_at h2 (o + 1)
  have d1 : w2.cell? ⟨b, o + 1, none⟩ = some (.slice sa sn sc) := (cell_at h2 _).trans H1.out.buf
  have HG := hidK (And.intro h2 (And.intro hown2 hg2))
  obtain ⟨va, vn, vc, hve⟩ := owns_slice hown2
  clear h2 hown2 hg2 c1 HA
  subst hve
  go_wp2_with fail
  go_ret2
  obtain ⟨h2, hown2, hg2⟩ := HG.out
  have hap : (Value.slice va vn vc).ownBlock ≠ some b := by
    intro hb
    rcases hown2.2 with ⟨e, _⟩ | ⟨g, cap, cur, e, _, hg, _⟩
    · rw [e] at hb
      cases hb
    · rw [e] at hb
      cases hb
      have := hg.symm.trans h2
      simp only [Option.some.injEq, Obj.cells.injEq] at this
      exact H1.out.ty this.2.1.symm
  refine ⟨⟨_, rfl⟩, _, ⟨set_at h2 _ _, ?_, ?_, hown2.keep fun g hg => Below.heap_setCell _ _ _ _ (fun e => hap (by rw [hg, e])), H1.out.ty, ?_⟩, ?_⟩
  · rw [Array.set!_eq_setIfInBounds, Array.getElem?_setIfInBounds]
    simpa using H1.out.adr
  · rw [Array.set!_eq_setIfInBounds, Array.getElem?_setIfInBounds]
    simp
    omega
  · rw [Array.set!_eq_setIfInBounds, Array.size_setIfInBounds]
    exact H1.out.lies
  · refine But.setCell (But.grown ((HB1.out.mono fun k _ hk => ?_).alloc ob) hg2 fun k hk => .inl ?_) (.inl (by simp)) _
    · rcases List.mem_cons.1 hk with e | e
      · rw [e]; exact List.mem_cons_self
      · cases e
    · rw [hk]
      simp
end Go.Proofs.YtooahffclghcjaaGreatDoor
