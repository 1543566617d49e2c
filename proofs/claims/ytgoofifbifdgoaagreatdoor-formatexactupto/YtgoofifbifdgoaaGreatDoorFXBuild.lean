/-
  Lines of commands: strings.Builder, wherever it lies.
-/
import Derived.Test.YtgoofifbifdgoaaGreatDoorFXBase
import Derived.Lib.AppendStr
namespace Go.Proofs.YtgoofifbifdgoaaGreatDoor
open Go.RowKit
set_option linter.unusedVariables false
set_option maxRecDepth 100000

theorem infoB : (Tryz.prog.info? 5).map (fun i => (i.zero, i.size, i.bytes)) = some (some (.int .u8 0), 1, 1) := by kernel_rfl
theorem sizeBuilder : (Tryz.prog.info? 67).map (·.size) = some 2 := by kernel_rfl

set_option maxHeartbeats 1000000 in
theorem copyCheck_used (b o : Nat) (w : World) (h0 : w.cell? ⟨b, o, none⟩ = some (.pointer (some ⟨b, o, none⟩))) :
    Calls Tryz.prog 79 #[.pointer (some ⟨b, o, none⟩)] w fun e w' => e = .returned (.tuple #[]) ∧ w' = w := by
  obtain ⟨j, hj, _⟩ := Option.map_eq_some_iff.1 sizeBuilder
  go_enter Tryz.func79, Tryz.ntmps79
  go_wp2
  rw [Lib.run_neq_ptr_same w _ Tryz.underlying64 hj]
  go_wp2
  go_end0
  exact ⟨rfl, rfl⟩

set_option maxHeartbeats 1000000 in
theorem copyCheck_fresh (b o : Nat) (T : TypeId) (n : Nat) (w : World) (h0 : w.cell? ⟨b, o, none⟩ = some (.pointer none)) (hsh : w.shape? b = some (T, n)) (ho : o < n) (hfz : w.frozen? ⟨b, o, none⟩ = false) (hlies : liesAt Tryz.prog Tryz.prog.depth T (n / Tryz.prog.cellsOf T) o 67 1 = true) :
    Calls Tryz.prog 79 #[.pointer (some ⟨b, o, none⟩)] w fun e w' => e = .returned (.tuple #[]) ∧ w' = w.setCell ⟨b, o, none⟩ (.pointer (some ⟨b, o, none⟩)) := by
  obtain ⟨j, hj, hjs⟩ := Option.map_eq_some_iff.1 sizeBuilder
  go_enter Tryz.func79, Tryz.ntmps79
  go_wp2
  rw [Lib.run_to_unsafe w ⟨b, o, none⟩ Tryz.underlying64 Tryz.underlying74 hj (by rw [hjs]; decide) hsh ho]
  simp only [Result.andThen]
  rw [Oper.upon_value]
  go_wp2
  rw [run_callFunc_extern Tryz.func115 (by kernel_rfl) (by kernel_rfl) (by kernel_rfl) (e := Extern.AbiNoEscape.same) (by kernel_rfl)]
  rw [Lib.run_noEscape]
  simp only [Result.andThen]
  rw [Oper.upon_value]
  go_wp2
  rw [Lib.run_from_unsafe w ⟨b, o, none⟩ Tryz.underlying74 Tryz.underlying64 hj hsh hlies]
  simp only [Result.andThen]
  rw [Oper.upon_value]
  go_wp2
  go_end0
  exact ⟨rfl, rfl⟩

theorem set_same (cs : Array Value) (o : Nat) (v : Value) (h : cs[o]? = some v) : cs.set! o v = cs := by
  obtain ⟨h1, h2⟩ := Array.getElem?_eq_some_iff.1 h
  rw [Array.set!_eq_setIfInBounds]
  apply Array.ext
  · simp
  · intro i hi hi2
    rw [Array.getElem_setIfInBounds]
    split
    · rename_i e
      subst e
      exact h2.symm
    · rfl

theorem owns_slice {w : World} {B : Nat} {v : Value} {l : List UInt8} (h : Owns w B v l) : ∃ a n c, v = .slice a n c := by
  rcases h.2 with ⟨rfl, _⟩ | ⟨g, cap, cur, rfl, _⟩
  · exact ⟨_, _, _, rfl⟩
  · exact ⟨_, _, _, rfl⟩

theorem copyCheck_in {w : World} {B b o : Nat} {T : TypeId} {cs : Array Value} {v : Value} {l : List UInt8} (h : BuilderIn w B b o T cs v l) :
    Calls Tryz.prog 79 #[.pointer (some ⟨b, o, none⟩)] w fun e w' => e = .returned (.tuple #[]) ∧ BuilderIn w' B b o T (cs.set! o (.pointer (some ⟨b, o, none⟩))) v l ∧ But [b] w w' := by
  have hos : o + 1 < cs.size := (Array.getElem?_eq_some_iff.1 h.buf).1
  rcases h.adr with ha | ha
  · refine (copyCheck_fresh b o T cs.size w ((cell_at h.blk o).trans ha) (shape_at h.blk) (by omega) (free_at h.blk o) h.lies).mono ?_
    rintro e w' ⟨rfl, rfl⟩
    refine ⟨rfl, ⟨set_at h.blk o _, .inr ?_, ?_, h.own.keep fun g hg => Below.heap_setCell _ _ _ _ (fun e => ?_), h.ty, ?_⟩, (But.refl _ _).setCell (.inl (by simp)) _⟩
    · rw [Array.set!_eq_setIfInBounds, Array.getElem?_setIfInBounds]
      simp
      omega
    · rw [Array.set!_eq_setIfInBounds, Array.getElem?_setIfInBounds]
      simp [h.buf]
    · exact h.apart (by rw [hg, e])
    · rw [Array.set!_eq_setIfInBounds, Array.size_setIfInBounds]
      exact h.lies
  · refine (copyCheck_used b o w ((cell_at h.blk o).trans ha)).mono ?_
    rintro e w' ⟨rfl, rfl⟩
    rw [set_same cs o _ ha]
    exact ⟨rfl, h, But.refl _ _⟩

set_option maxHeartbeats 1000000 in
theorem writeString_in {w : World} {B b o : Nat} {T : TypeId} {cs : Array Value} {v : Value} {l : List UInt8} (t : ByteArray) (h : BuilderIn w B b o T cs v l) (hB : B ≤ w.heap.size) (hlen : l.length + t.size ≤ 140737488355328) :
    Calls Tryz.prog 30 #[.pointer (some ⟨b, o, none⟩), .string t] w fun e w' => (∃ r, e = .returned r) ∧ ∃ v', BuilderIn w' B b o T ((cs.set! o (.pointer (some ⟨b, o, none⟩))).set! (o + 1) v') v' (l ++ t.data.toList) ∧ But (b :: v.ownBlock.toList) w w' := by
  have HC : Hid (Calls Tryz.prog 79 #[.pointer (some ⟨b, o, none⟩)] w fun e w' => e = .returned (.tuple #[]) ∧ BuilderIn w' B b o T (cs.set! o (.pointer (some ⟨b, o, none⟩))) v l ∧ But [b] w w') := copyCheck_in h
  obtain ⟨ds, hds⟩ : ∃ ds, cs.set! o (.pointer (some ⟨b, o, none⟩)) = ds := ⟨_, rfl⟩
  rw [hds] at HC
  rw [hds]
  have hos : o + 1 < cs.size := (Array.getElem?_eq_some_iff.1 h.buf).1
  have hdz : o + 1 < ds.size := by rw [← hds, Array.set!_eq_setIfInBounds, Array.size_setIfInBounds]; exact hos
  clear h hds hos
  go_enter Tryz.func30, Tryz.ntmps30
  go_wp2_with fail
  refine HC.out.mono ?_
  rintro e w1 ⟨rfl, h1, hb1⟩
  have c1 : w1.cell? ⟨b, o + 1, none⟩ = some v := (cell_at h1.blk (o + 1)).trans h1.buf
  have H1 : Hid (BuilderIn w1 B b o T ds v l) := h1
  have HB1 : Hid (But [b] w w1) := hb1
  have hBw : B ≤ w1.heap.size := Nat.le_trans hB hb1.size
  have hown := h1.own
  clear h1 hb1 HC
  obtain ⟨i0, hi, hz0, hz1, hz2⟩ := info_parts infoB
  go_wp2_with (at_builtin; refine Lib.wpList_append_own_string w1 rfl (.tmp 12) (.tmp 13) 65 9 rfl B 5 i0 Tryz.underlying65 Tryz.underlying9 hi hz0 hz1 hz2 v _ _ rfl hown t rfl ?x0 hlen hBw ?_; (case x0 => unfold maxLen; omega); intro v' w2 hown1 hg2 _; have hown2 : Owns w2 B v' (l ++ t.data.toList) := (Owns.mk hown1 (by simp) (by simp [Lib.strCells, bv, List.map_append])); obtain ⟨f1, d1⟩ : w2.frozen? ⟨b, o + 1, none⟩ = false ∧ w2.cell? ⟨b, o + 1, none⟩ = some v := (by
      have hlt := lt_block H1.out.blk
      have h2 : w2.heap[b]? = some (.cells ds T (0, 0)) := (hg2.block b (by omega) (fun e => H1.out.apart e.symm)).trans H1.out.blk
      exact ⟨free_at h2 _, (cell_at h2 _).trans H1.out.buf⟩); clear hown1; obtain ⟨va, vn, vc, rfl⟩ := owns_slice hown2)
  go_ret2
  have hlt := lt_block H1.out.blk
  have h2 : w2.heap[b]? = some (.cells ds T (0, 0)) := (hg2.block b (by omega) (fun e => H1.out.apart e.symm)).trans H1.out.blk
  have hap : (Value.slice va vn vc).ownBlock ≠ some b := by
    intro hb
    rcases hown2.2 with ⟨e, _⟩ | ⟨g, cap, cur, e, _, hg, _⟩
    · rw [e] at hb
      cases hb
    · rw [e] at hb
      cases hb
      have := hg.symm.trans h2
      simp only [Option.some.injEq, Obj.cells.injEq] at this
      exact H1.out.ty this.2.1.symm
  refine ⟨⟨_, rfl⟩, _, ⟨set_at h2 _ _, ?_, ?_, hown2.keep fun g hg => Below.heap_setCell _ _ _ _ (fun e => hap (by rw [hg, e])), H1.out.ty, ?_⟩, ?_⟩
  · rw [Array.set!_eq_setIfInBounds, Array.getElem?_setIfInBounds]
    simpa using H1.out.adr
  · rw [Array.set!_eq_setIfInBounds, Array.getElem?_setIfInBounds]
    simp
    omega
  · rw [Array.set!_eq_setIfInBounds, Array.size_setIfInBounds]
    exact H1.out.lies
  · refine But.setCell (But.grown (HB1.out.mono fun k _ hk => ?_) hg2 fun k hk => .inl ?_) (.inl (by simp)) _
    · rcases List.mem_cons.1 hk with e | e
      · rw [e]; exact List.mem_cons_self
      · cases e
    · rw [hk]
      simp

end Go.Proofs.YtgoofifbifdgoaaGreatDoor
