/-
  strings.Builder, wherever it lies; small laws of memory.
  Keys: a key's name.
-/
import Derived.Test.YtnehkokppobncaaDoorQRow
import Derived.Test.YtnehkokppobncaaDoorGB
import Derived.Test.YtnehkokppobncaaDoorGC
import Derived.OneCell
import Derived.OwnWalk
import Derived.Deep.Draws
import Derived.Lib.Builder
import Derived.Laws.Externs
import Derived.Lib.AppendStr
import Derived.Shelf.RegionOpenPlain
import Derived.Lib.UnsafeStr
import Derived.Laws.BitsLemmas
namespace Go.Proofs.YtnehkokppobncaaDoor
open Go.RowKit
set_option linter.unusedVariables false
set_option maxRecDepth 100000

theorem gen_exit {E : Exit → Act → World → Prop} {x : Exit} {a : Act} {w : World} (R : World → Prop) (h : R w) (hG : ∀ Y, R Y → E x a Y) : E x a w := hG w h
theorem gen_wp {P : Program} {c : Code} {Q : Exit → Act → World → Prop} {a : Act} {w : World} (R : World → Prop) (h : R w) (hG : ∀ Y, R Y → Code.wp P c Q a Y) : Code.wp P c Q a w := hG w h
theorem put_at {w : World} {b : Nat} {cs : Array Value} {T : TypeId} (h : w.heap[b]? = some (.cells cs T (0, 0))) (i : Nat) (v : Value) : (w.setCell ⟨b, i, none⟩ v).heap[b]? = some (.cells (cs.setIfInBounds i v) T (0, 0)) := heap_setCell_same w b i _ _ _ h
theorem put_other {w : World} {b c : Nat} {o : Option Obj} (h : w.heap[b]? = o) (hc : b ≠ c) (i : Nat) (v : Value) : (w.setCell ⟨c, i, none⟩ v).heap[b]? = o := (Below.heap_setCell _ _ _ _ (fun e => hc e)).trans h
theorem alloc_at {w : World} {b : Nat} {o : Obj} (h : w.heap[b]? = some o) (p : Obj) : (w.alloc p).heap[b]? = some o := by rw [Below.heap_alloc _ _ _ (lt_of_block h)]; exact h
theorem But.drew {S : List Nat} {w w' : World} (h : But S w w') : But S w w'.drew := ⟨h.os, h.tape, h.output, h.size, h.block⟩
theorem But.one {w : World} {b : Nat} (i : Nat) (v : Value) : But [b] w (w.setCell ⟨b, i, none⟩ v) := (But.refl _ _).setCell (p := ⟨b, i, none⟩) (.inl (by simp)) v
theorem But.next {w w' : World} {b : Nat} (h : But [b] w w') (i : Nat) (v : Value) : But [b] w (w'.setCell ⟨b, i, none⟩ v) := h.setCell (p := ⟨b, i, none⟩) (.inl (by simp)) v
theorem lt_block {w : World} {b : Nat} {o : Obj} (h : w.heap[b]? = some o) : b < w.heap.size := (Array.getElem?_eq_some_iff.1 h).1
theorem cell_at {w : World} {b : Nat} {cs : Array Value} {t : TypeId} (h : w.heap[b]? = some (.cells cs t (0, 0))) (o : Nat) : w.cell? ⟨b, o, none⟩ = cs[o]? := by simp [World.cell?, h]
theorem free_at {w : World} {b : Nat} {cs : Array Value} {t : TypeId} (h : w.heap[b]? = some (.cells cs t (0, 0))) (o : Nat) : w.frozen? ⟨b, o, none⟩ = false := by simp [World.frozen?, h]
theorem shape_at {w : World} {b : Nat} {cs : Array Value} {t : TypeId} (h : w.heap[b]? = some (.cells cs t (0, 0))) : w.shape? b = some (t, cs.size) := by simp [World.shape?, h]
theorem set_at {w : World} {b : Nat} {cs : Array Value} {t : TypeId} (h : w.heap[b]? = some (.cells cs t (0, 0))) (o : Nat) (v : Value) : (w.setCell ⟨b, o, none⟩ v).heap[b]? = some (.cells (cs.set! o v) t (0, 0)) := by
  have hlt : b < w.heap.size := lt_block h
  have h' : w.heap[b] = .cells cs t (0, 0) := by simpa [Array.getElem?_eq_getElem hlt] using h
  show (w.heap.modify b _)[b]? = _
  rw [Array.getElem?_eq_getElem (by simpa using hlt), Array.getElem_modify_self, h']
  rfl
theorem new_at (w : World) (o : Obj) : (w.alloc o).heap[w.heap.size]? = some o := heap_alloc_new w o

theorem But.grown {S : List Nat} {w w1 w2 : World} {r : Option Nat} (h : But S w w1) (hg : w1.grownBy w2 r) (hr : ∀ k, r = some k → k ∈ S ∨ w.heap.size ≤ k) : But S w w2 :=
  ⟨hg.os.trans h.os, hg.tape.trans h.tape, hg.output.trans h.output, Nat.le_trans h.size hg.size, fun k hk hs => (hg.block k (Nat.lt_of_lt_of_le hk h.size) (fun e => by
    rcases hr k e.symm with h1 | h1
    · exact hs h1
    · omega)).trans (h.block k hk hs)⟩

/-- Bytes appended to what is owned: nothing else turns. -/
theorem wpList_append_bytesG {P : Program} (w : World) {ops : Array Oper} {rest : List Oper} {o : Oper} {a : Act} {Q : Exit → Act → World → Prop} (hgd : o.guard = none) (s x : Operand) (t : TypeId)
    (ho : o.op = .call { callee := .builtin .append, args := #[s, x], argTypes := #[t, t] }) (ht : P.underlying t = some (.slice 5))
    (hinfo : (P.info? 5).map (fun i => (i.zero, i.size, i.bytes)) = some (some (.int .u8 0), 1, 1))
    (B : Nat) (v : Value) (l : List UInt8) (hs : a.eval s = v) (hown : Owns w B v l)
    (ad : Addr) (m c : Nat) (news : List UInt8) (hx : a.eval x = .slice (some ad) m c) (hm : news.length = m) (hnews : ∀ j (hj : j < news.length), w.cell? (ad.add j) = some (bv news[j]))
    (hlen : l.length + m ≤ 140737488355328) (hbase : B ≤ w.heap.size)
    (h : ∀ v' w', Owns w' B v' (l ++ news) → w.grownBy w' v.ownBlock → wpList P ops Q rest (a.put o.dst v') w') : wpList P ops Q (o :: rest) a w := by
  obtain ⟨i0, hi, hz0, hz1, hz2⟩ := info_parts hinfo
  refine wpList_append_own w hgd s x t ho B 5 i0 (.int .u8 0) 1 1 ht hi hz0 hz1 hz2 rfl (by decide) v l.length (l.map bv) hs hown ad m c (news.map bv) hx (by simp [hm]) ?_ ?_ (by unfold maxLen; omega) (by omega) hbase ?_
  · intro j u hu
    rw [List.getElem?_map] at hu
    obtain ⟨b, hb, rfl⟩ := Option.map_eq_some_iff.1 hu
    obtain ⟨hj, rfl⟩ := List.getElem?_eq_some_iff.1 hb
    exact hnews j hj
  · intro u hu
    obtain ⟨b, _, rfl⟩ := List.mem_map.1 hu
    rfl
  · intro v' w' h2 h3 _
    exact h v' w' (Owns.mk h2 (by simp [hm]) (by simp)) h3

/-- A Builder that lies in a block, from a place on. -/
structure BuilderIn (w : World) (B b o : Nat) (T : TypeId) (cs : Array Value) (v : Value) (l : List UInt8) : Prop where
  blk : w.heap[b]? = some (.cells cs T (0, 0))
  adr : cs[o]? = some (.pointer none) ∨ cs[o]? = some (.pointer (some ⟨b, o, none⟩))
  buf : cs[o + 1]? = some v
  own : Owns w B v l
  ty : T ≠ 5
  lies : liesAt Tryd.prog Tryd.prog.depth T (cs.size / Tryd.prog.cellsOf T) o 58 1 = true
theorem BuilderIn.apart {w : World} {B b o : Nat} {T : TypeId} {cs : Array Value} {v : Value} {l : List UInt8} (h : BuilderIn w B b o T cs v l) : v.ownBlock ≠ some b := by
  intro hb
  rcases h.own.2 with ⟨rfl, _⟩ | ⟨g, cap, cur, rfl, _, hg, _⟩
  · cases hb
  · cases hb
    have := hg.symm.trans h.blk
    simp only [Option.some.injEq, Obj.cells.injEq] at this
    exact h.ty this.2.1.symm
theorem Owns.keep {w w' : World} {B : Nat} {v : Value} {l : List UInt8} (h : Owns w B v l) (hk : ∀ g, v.ownBlock = some g → w'.heap[g]? = w.heap[g]?) : Owns w' B v l := by
  refine ⟨h.1, ?_⟩
  rcases h.2 with h0 | ⟨g, cap, cur, rfl, hb, hg, r⟩
  · exact .inl h0
  · exact .inr ⟨g, cap, cur, rfl, hb, (hk g rfl).trans hg, r⟩


theorem infoB : (Tryd.prog.info? 5).map (fun i => (i.zero, i.size, i.bytes)) = some (some (.int .u8 0), 1, 1) := by kernel_rfl
theorem sizeBuilder : (Tryd.prog.info? 58).map (·.size) = some 2 := by kernel_rfl

set_option maxHeartbeats 1000000 in
theorem copyCheck_used (b o : Nat) (w : World) (h0 : w.cell? ⟨b, o, none⟩ = some (.pointer (some ⟨b, o, none⟩))) :
    Calls Tryd.prog 47 #[.pointer (some ⟨b, o, none⟩)] w fun e w' => e = .returned (.tuple #[]) ∧ w' = w := by
  obtain ⟨j, hj, _⟩ := Option.map_eq_some_iff.1 sizeBuilder
  go_enter Tryd.func47, Tryd.ntmps47
  go_wp2
  rw [Lib.run_neq_ptr_same w _ Tryd.underlying56 hj]
  go_wp2
  go_end0
  exact ⟨rfl, rfl⟩

set_option maxHeartbeats 1000000 in
theorem copyCheck_fresh (b o : Nat) (T : TypeId) (n : Nat) (w : World) (h0 : w.cell? ⟨b, o, none⟩ = some (.pointer none)) (hsh : w.shape? b = some (T, n)) (ho : o < n) (hfz : w.frozen? ⟨b, o, none⟩ = false) (hlies : liesAt Tryd.prog Tryd.prog.depth T (n / Tryd.prog.cellsOf T) o 58 1 = true) :
    Calls Tryd.prog 47 #[.pointer (some ⟨b, o, none⟩)] w fun e w' => e = .returned (.tuple #[]) ∧ w' = w.setCell ⟨b, o, none⟩ (.pointer (some ⟨b, o, none⟩)) := by
  obtain ⟨j, hj, hjs⟩ := Option.map_eq_some_iff.1 sizeBuilder
  go_enter Tryd.func47, Tryd.ntmps47
  go_wp2
  rw [Lib.run_to_unsafe w ⟨b, o, none⟩ Tryd.underlying56 Tryd.underlying88 hj (by rw [hjs]; decide) hsh ho]
  simp only [Result.andThen]
  rw [Oper.upon_value]
  go_wp2
  rw [run_callFunc_extern Tryd.func57 (by kernel_rfl) (by kernel_rfl) (by kernel_rfl) (e := Extern.AbiNoEscape.same) (by kernel_rfl)]
  rw [Lib.run_noEscape]
  simp only [Result.andThen]
  rw [Oper.upon_value]
  go_wp2
  rw [Lib.run_from_unsafe w ⟨b, o, none⟩ Tryd.underlying88 Tryd.underlying56 hj hsh hlies]
  simp only [Result.andThen]
  rw [Oper.upon_value]
  go_wp2
  go_end0
  exact ⟨rfl, rfl⟩

theorem set_same (cs : Array Value) (o : Nat) (v : Value) (h : cs[o]? = some v) : cs.set! o v = cs := by
  obtain ⟨h1, h2⟩ := Array.getElem?_eq_some_iff.1 h
  rw [Array.set!_eq_setIfInBounds]
  apply Array.ext
  · simp
  · intro i hi hi2
    rw [Array.getElem_setIfInBounds]
    split
    · rename_i e
      subst e
      exact h2.symm
    · rfl

theorem owns_slice {w : World} {B : Nat} {v : Value} {l : List UInt8} (h : Owns w B v l) : ∃ a n c, v = .slice a n c := by
  rcases h.2 with ⟨rfl, _⟩ | ⟨g, cap, cur, rfl, _⟩
  · exact ⟨_, _, _, rfl⟩
  · exact ⟨_, _, _, rfl⟩

theorem copyCheck_in {w : World} {B b o : Nat} {T : TypeId} {cs : Array Value} {v : Value} {l : List UInt8} (h : BuilderIn w B b o T cs v l) :
    Calls Tryd.prog 47 #[.pointer (some ⟨b, o, none⟩)] w fun e w' => e = .returned (.tuple #[]) ∧ BuilderIn w' B b o T (cs.set! o (.pointer (some ⟨b, o, none⟩))) v l ∧ But [b] w w' := by
  have hos : o + 1 < cs.size := (Array.getElem?_eq_some_iff.1 h.buf).1
  rcases h.adr with ha | ha
  · refine (copyCheck_fresh b o T cs.size w ((cell_at h.blk o).trans ha) (shape_at h.blk) (by omega) (free_at h.blk o) h.lies).mono ?_
    rintro e w' ⟨rfl, rfl⟩
    refine ⟨rfl, ⟨set_at h.blk o _, .inr ?_, ?_, h.own.keep fun g hg => Below.heap_setCell _ _ _ _ (fun e => ?_), h.ty, ?_⟩, (But.refl _ _).setCell (.inl (by simp)) _⟩
    · rw [Array.set!_eq_setIfInBounds, Array.getElem?_setIfInBounds]
      simp
      omega
    · rw [Array.set!_eq_setIfInBounds, Array.getElem?_setIfInBounds]
      simp [h.buf]
    · exact h.apart (by rw [hg, e])
    · rw [Array.set!_eq_setIfInBounds, Array.size_setIfInBounds]
      exact h.lies
  · refine (copyCheck_used b o w ((cell_at h.blk o).trans ha)).mono ?_
    rintro e w' ⟨rfl, rfl⟩
    rw [set_same cs o _ ha]
    exact ⟨rfl, h, But.refl _ _⟩


theorem cellsByte : Tryd.prog.cellsOf 5 = 1 := by kernel_rfl
theorem unsafeString_none (W : World) (q : Option Addr) : (Builtin.unsafeString_ #[78, 3] 9 #[.pointer q, .int .i64 0]).run Tryd.prog W = .ok (.string .empty) W := Lib.run_unsafeString_none W _ _ _ q
theorem But.freeze {S : List Nat} {w w' : World} (h : But S w w') {p : Addr} (hp : p.block ∈ S) (n : Nat) : But S w (w'.freeze p n) := by
  unfold World.freeze
  split
  · exact h
  · refine ⟨h.os, h.tape, h.output, ?_, fun k hk hs => ?_⟩
    · show w.heap.size ≤ (w'.heap.modify p.block _).size
      rw [Array.size_modify]
      exact h.size
    · show (w'.heap.modify p.block _)[k]? = _
      rw [Array.getElem?_modify, if_neg (fun e : p.block = k => hs (e ▸ hp))]
      exact h.block k hk hs

set_option maxHeartbeats 1000000 in
theorem string_some {w : World} {B b o : Nat} {T : TypeId} {cs : Array Value} {v : Value} {l : List UInt8} (h : BuilderIn w B b o T cs v l) (h0 : l ≠ []) :
    Calls Tryd.prog 34 #[.pointer (some ⟨b, o, none⟩)] w fun e w' => e = .returned (.string (str l)) ∧ w'.heap[b]? = some (.cells cs T (0, 0)) ∧ But v.ownBlock.toList w w' := by
  have hl0 : l.length ≠ 0 := by simpa using h0
  have hap := h.apart
  rcases h.own.2 with ⟨_, hz⟩ | ⟨g, cap, cur, rfl, hbg, hg, hnc, hcm, hcs, htake⟩
  · exact absurd hz hl0
  have c1 : w.drew.cell? ⟨b, o + 1, none⟩ = some (.slice (some ⟨g, 0, none⟩) l.length cap) := (cell_at (w := w.drew) h.blk (o + 1)).trans h.buf
  have hSD : (Builtin.unsafeSliceData_ #[39] 78 #[.slice (some ⟨g, 0, none⟩) l.length cap]).run Tryd.prog w.drew = .ok (.pointer (some ⟨g, 0, none⟩)) w.drew := Lib.run_unsafeSliceData_row _ _ _ _ _ _ (by omega)
  have hUS : (Builtin.unsafeString_ #[78, 3] 9 #[.pointer (some ⟨g, 0, none⟩), .int .i64 l.length]).run Tryd.prog w.drew = .ok (.string (str l)) (w.drew.freeze ⟨g, 0, none⟩ l.length) := by
    refine Lib.run_unsafeString_row w.drew 78 3 9 5 Tryd.underlying78 cellsByte g cur.size (by have hg' : w.drew.heap[g]? = some (.cells cur 5 (0, 0)) := hg; simp [World.shape?, hg']) l h0 (by omega) (by unfold maxLen at hcm; omega) ?_
    intro j x hx
    exact World.ownsRow.cells h.own (g := g) rfl j (.int .u8 x.toNat) (by simp [bv, hx])
  have HF : Hid ((w.drew.freeze ⟨g, 0, none⟩ l.length).heap[b]? = some (.cells cs T (0, 0)) ∧ But (Value.slice (some ⟨g, 0, none⟩) l.length cap).ownBlock.toList w (w.drew.freeze ⟨g, 0, none⟩ l.length)) := by
    have hB : But (Value.slice (some ⟨g, 0, none⟩) l.length cap).ownBlock.toList w (w.drew.freeze ⟨g, 0, none⟩ l.length) := (But.refl _ w).drew.freeze (p := ⟨g, 0, none⟩) (by simp [Value.ownBlock]) _
    exact ⟨(hB.block b (lt_block h.blk) (fun e => hap (by simpa [Value.ownBlock, eq_comm] using e))).trans h.blk, hB⟩
  clear h hap hl0 h0 hbg hg hnc hcm hcs htake
  go_enter Tryd.func34, Tryd.ntmps34
  go_wp2
  go_region
  all_goals (go_wp2; go_ret; exact ⟨rfl, HF.out.1, HF.out.2⟩)

set_option maxHeartbeats 1000000 in
theorem string_none {w : World} {b o : Nat} {T : TypeId} {cs : Array Value} (h : w.heap[b]? = some (.cells cs T (0, 0))) (hv : cs[o + 1]? = some (.slice none 0 0)) :
    Calls Tryd.prog 34 #[.pointer (some ⟨b, o, none⟩)] w fun e w' => e = .returned (.string (str [])) ∧ w'.heap[b]? = some (.cells cs T (0, 0)) ∧ But [] w w' := by
  have hUS := unsafeString_none
  have c1 : w.drew.cell? ⟨b, o + 1, none⟩ = some (.slice none 0 0) := (cell_at (w := w.drew) h (o + 1)).trans hv
  have hSD : (Builtin.unsafeSliceData_ #[39] 78 #[.slice none 0 0]).run Tryd.prog w.drew = .ok (.pointer none) w.drew := by kernel_rfl
  have HF : Hid (w.drew.heap[b]? = some (.cells cs T (0, 0)) ∧ But [] w w.drew) := ⟨h, (But.refl _ w).drew⟩
  clear h hv
  go_enter Tryd.func34, Tryd.ntmps34
  go_wp2
  go_region
  all_goals (go_wp2; go_ret; exact ⟨rfl, HF.out.1, HF.out.2⟩)

theorem string_in {w : World} {B b o : Nat} {T : TypeId} {cs : Array Value} {v : Value} {l : List UInt8} (h : BuilderIn w B b o T cs v l) (hv : l = [] → v = .slice none 0 0) :
    Calls Tryd.prog 34 #[.pointer (some ⟨b, o, none⟩)] w fun e w' => e = .returned (.string (str l)) ∧ w'.heap[b]? = some (.cells cs T (0, 0)) ∧ But v.ownBlock.toList w w' := by
  by_cases h0 : l = []
  · subst h0
    have := hv rfl
    subst this
    exact string_none h.blk h.buf
  · exact string_some h h0



set_option maxHeartbeats 1000000 in
theorem writeString_in {w : World} {B b o : Nat} {T : TypeId} {cs : Array Value} {v : Value} {l : List UInt8} (t : ByteArray) (h : BuilderIn w B b o T cs v l) (hB : B ≤ w.heap.size) (hlen : l.length + t.size ≤ 140737488355328) :
    Calls Tryd.prog 33 #[.pointer (some ⟨b, o, none⟩), .string t] w fun e w' => (∃ r, e = .returned r) ∧ ∃ v', BuilderIn w' B b o T ((cs.set! o (.pointer (some ⟨b, o, none⟩))).set! (o + 1) v') v' (l ++ t.data.toList) ∧ But (b :: v.ownBlock.toList) w w' := by
  have HC : Hid (Calls Tryd.prog 47 #[.pointer (some ⟨b, o, none⟩)] w fun e w' => e = .returned (.tuple #[]) ∧ BuilderIn w' B b o T (cs.set! o (.pointer (some ⟨b, o, none⟩))) v l ∧ But [b] w w') := copyCheck_in h
  obtain ⟨ds, hds⟩ : ∃ ds, cs.set! o (.pointer (some ⟨b, o, none⟩)) = ds := ⟨_, rfl⟩
  rw [hds] at HC
  rw [hds]
  have hos : o + 1 < cs.size := (Array.getElem?_eq_some_iff.1 h.buf).1
  have hdz : o + 1 < ds.size := by rw [← hds, Array.set!_eq_setIfInBounds, Array.size_setIfInBounds]; exact hos
  clear h hds hos
  go_enter Tryd.func33, Tryd.ntmps33
  go_wp2_with fail
  refine HC.out.mono ?_
  rintro e w1 ⟨rfl, h1, hb1⟩
  have c1 : w1.cell? ⟨b, o + 1, none⟩ = some v := (cell_at h1.blk (o + 1)).trans h1.buf
  have H1 : Hid (BuilderIn w1 B b o T ds v l) := h1
  have HB1 : Hid (But [b] w w1) := hb1
  have hBw : B ≤ w1.heap.size := Nat.le_trans hB hb1.size
  have hown := h1.own
  clear h1 hb1 HC
  obtain ⟨i0, hi, hz0, hz1, hz2⟩ := info_parts infoB
  go_wp2_with (at_builtin; refine Lib.wpList_append_own_string w1 rfl (.tmp 12) (.tmp 13) 39 9 rfl B 5 i0 Tryd.underlying39 Tryd.underlying9 hi hz0 hz1 hz2 v _ _ rfl hown t rfl ?x0 hlen hBw ?_; (case x0 => unfold maxLen; omega); intro v' w2 hown1 hg2 _; have hown2 : Owns w2 B v' (l ++ t.data.toList) := (Owns.mk hown1 (by simp) (by simp [Lib.strCells, bv, List.map_append])); obtain ⟨f1, d1⟩ : w2.frozen? ⟨b, o + 1, none⟩ = false ∧ w2.cell? ⟨b, o + 1, none⟩ = some v := (by
      have hlt := lt_block H1.out.blk
      have h2 : w2.heap[b]? = some (.cells ds T (0, 0)) := (hg2.block b (by omega) (fun e => H1.out.apart e.symm)).trans H1.out.blk
      exact ⟨free_at h2 _, (cell_at h2 _).trans H1.out.buf⟩); clear hown1; obtain ⟨va, vn, vc, rfl⟩ := owns_slice hown2)
  go_ret2
  have hlt := lt_block H1.out.blk
  have h2 : w2.heap[b]? = some (.cells ds T (0, 0)) := (hg2.block b (by omega) (fun e => H1.out.apart e.symm)).trans H1.out.blk
  have hap : (Value.slice va vn vc).ownBlock ≠ some b := by
    intro hb
    rcases hown2.2 with ⟨e, _⟩ | ⟨g, cap, cur, e, _, hg, _⟩
    · rw [e] at hb
      cases hb
    · rw [e] at hb
      cases hb
      have := hg.symm.trans h2
      simp only [Option.some.injEq, Obj.cells.injEq] at this
      exact H1.out.ty this.2.1.symm
  refine ⟨⟨_, rfl⟩, _, ⟨set_at h2 _ _, ?_, ?_, hown2.keep fun g hg => Below.heap_setCell _ _ _ _ (fun e => hap (by rw [hg, e])), H1.out.ty, ?_⟩, ?_⟩
  · rw [Array.set!_eq_setIfInBounds, Array.getElem?_setIfInBounds]
    simpa using H1.out.adr
  · rw [Array.set!_eq_setIfInBounds, Array.getElem?_setIfInBounds]
    simp
    omega
  · rw [Array.set!_eq_setIfInBounds, Array.size_setIfInBounds]
    exact H1.out.lies
  · refine But.setCell (But.grown (HB1.out.mono fun k _ hk => ?_) hg2 fun k hk => .inl ?_) (.inl (by simp)) _
    · rcases List.mem_cons.1 hk with e | e
      · rw [e]; exact List.mem_cons_self
      · cases e
    · rw [hk]
      simp

end Go.Proofs.YtnehkokppobncaaDoor

namespace Go.Proofs.YtnehkokppobncaaDoor
open Go.RowKit
set_option linter.unusedVariables false
set_option maxRecDepth 100000

theorem BuilderIn.below {w w' : World} {B b o : Nat} {T : TypeId} {cs : Array Value} {v : Value} {l : List UInt8} (h : BuilderIn w B b o T cs v l) (hb : Below w.heap.size w w') : BuilderIn w' B b o T cs v l :=
  ⟨(hb.block b (lt_block h.blk)).trans h.blk, h.adr, h.buf, h.own.keep fun g hg => by
    rcases h.own.2 with ⟨e, _⟩ | ⟨g', cap, cur, e, _, hk, _⟩
    · rw [e] at hg; cases hg
    · rw [e] at hg; cases hg
      exact hb.block _ (lt_block hk), h.ty, h.lies⟩
theorem BuilderIn.young {w : World} {B b o : Nat} {T : TypeId} {cs : Array Value} {v : Value} {l : List UInt8} (h : BuilderIn w B b o T cs v l) {g : Nat} (hg : v.ownBlock = some g) : B ≤ g := by
  rcases h.own.2 with ⟨e, _⟩ | ⟨g', cap, cur, e, hb, _⟩
  · rw [e] at hg; cases hg
  · rw [e] at hg; cases hg
    exact hb
theorem md_at : ∀ k : Fin 3, ∃ a b, mdT[k.val]? = some (a, b) ∧ ∀ W : World, (Instr.index 60 (.agg mdCs.toArray) (.int .i64 (k.val : Int))).run Tryd.prog W = .ok (.agg #[.int .i64 a, .string (str b)]) W := by
  intro k
  match k with
  | ⟨0, _⟩ => exact ⟨_, _, rfl, fun W => by kernel_rfl⟩
  | ⟨1, _⟩ => exact ⟨_, _, rfl, fun W => by kernel_rfl⟩
  | ⟨2, _⟩ => exact ⟨_, _, rfl, fun W => by kernel_rfl⟩
  | ⟨k + 3, h⟩ => exact absurd h (by omega)
theorem bit_has {m : Int} (h0 : 0 ≤ m) (h7 : m ≤ 7) {k : Nat} {a : Int} {b : List UInt8} (hk : mdT[k]? = some (a, b)) : bits .and .i64 m a = (if hasM m a then a else 0) ∧ (a == 0) = false ∧ b.length = 2 := by
  have hm : m = 0 ∨ m = 1 ∨ m = 2 ∨ m = 3 ∨ m = 4 ∨ m = 5 ∨ m = 6 ∨ m = 7 := by omega
  have hk3 : k < 3 := (List.getElem?_eq_some_iff.1 hk).1
  rcases (by omega : k = 0 ∨ k = 1 ∨ k = 2) with e | e | e <;> subst e <;> (cases hk; refine ⟨?_, rfl, rfl⟩) <;> rcases hm with e | e | e | e | e | e | e | e <;> subst e <;> decide
def preM (m : Int) (i : Nat) : List UInt8 := (mdT.take i).flatMap fun p => if hasM m p.1 then p.2 else []
theorem preM_zero (m : Int) : preM m 0 = [] := rfl
theorem preM_succ {m : Int} {k : Nat} {a : Int} {b : List UInt8} (hk : mdT[k]? = some (a, b)) : preM m (k + 1) = preM m k ++ if hasM m a then b else [] := by
  unfold preM
  obtain ⟨hi, he⟩ := List.getElem?_eq_some_iff.1 hk
  rw [List.take_succ_eq_append_getElem hi, he, List.flatMap_append]
  simp
theorem preM_all (m : Int) : preM m 3 = modF m := by
  unfold preM modF mdT
  simp only [List.take_succ_cons, List.take_zero, List.flatMap_cons, List.flatMap_nil, List.append_nil, List.append_assoc]
theorem preM_len (m : Int) (i : Nat) : (preM m i).length ≤ 6 := by
  unfold preM
  rcases (by omega : i = 0 ∨ i = 1 ∨ i = 2 ∨ 3 ≤ i) with e | e | e | e
  · subst e; simp
  · subst e; simp [mdT]; split <;> simp
  · subst e; simp [mdT]; split <;> split <;> simp
  · rw [List.take_of_length_le (by exact e)]; simp [mdT]; split <;> split <;> split <;> simp
/-- A name that is gathered: the key's block, the Builder's. -/
structure Nm (w wr : World) (K B : Nat) (cs : Array Value) (v : Value) (l : List UInt8) (c m : Int) : Prop where
  below : Below w.heap.size w wr
  key : wr.heap[K]? = some (.cells #[.int .i64 c, .int .i64 m] 36 (0, 0))
  bld : BuilderIn wr B B 0 58 cs v l
  kb : w.heap.size ≤ K ∧ K < B ∧ B ≤ wr.heap.size
theorem Nm.more {w wr w' : World} {K B : Nat} {cs : Array Value} {v : Value} {l : List UInt8} {c m : Int} (h : Nm w wr K B cs v l c m) (hb : Below wr.heap.size wr w') : Nm w w' K B cs v l c m :=
  ⟨h.below.trans (hb.mono h.below.size), (hb.block K (lt_block h.key)).trans h.key, h.bld.below hb, ⟨h.kb.1, h.kb.2.1, Nat.le_trans h.kb.2.2 hb.size⟩⟩
theorem Nm.put {w wr w' : World} {K B : Nat} {cs cs' : Array Value} {v v' : Value} {l l' : List UInt8} {c m : Int} (h : Nm w wr K B cs v l c m) (hb : BuilderIn w' B B 0 58 cs' v' l') (hbut : But (B :: v.ownBlock.toList) wr w') : Nm w w' K B cs' v' l' c m := by
  have hk := h.kb
  have hS : ∀ q ∈ B :: v.ownBlock.toList, B ≤ q := by
    intro q hq
    rcases List.mem_cons.1 hq with e | e
    · omega
    · exact h.bld.young (by simpa using e)
  refine ⟨hbut.under h.below h.below.size (fun q hq => by have := hS q hq; omega), (hbut.block K (lt_block h.key) (fun hq => by have := hS K hq; omega)).trans h.key, hb, ⟨hk.1, hk.2.1, Nat.le_trans hk.2.2 hbut.size⟩⟩
theorem bare_len (c : Int) : (bareF c).length ≤ 9 := by
  unfold bareF
  split
  · have hall : ∀ s ∈ spT, s.name.length ≤ 9 := by decide
    rw [List.getD_eq_getElem?_getD]
    cases h : spT[(c - 16777217).toNat]? with
    | none => simp
    | some s => exact hall s (List.mem_of_getElem? h)
  · split
    · rename_i p hp
      have hall : ∀ p ∈ nmT, p.2.length ≤ 9 := by decide
      exact hall p (List.mem_of_find?_eq_some hp)
    · unfold Lib.encodeRune Lib.encodeRuneZ
      split
      · simp
      · split
        · simp
        · split
          · simp
          · split <;> simp
set_option maxHeartbeats 4000000 in
theorem name_mods (c m : Int) (hv : validB c m = true) (h0 : 0 ≤ c) (h1 : c ≤ 16777239) (hm1 : 1 ≤ m) (hm7 : m ≤ 7) {w : World} (hT : Tabs w) : Calls Tryd.prog 20 #[.agg #[.int .i64 c, .int .i64 m]] w fun r w' => r = .returned (.string (str (modF m ++ bareF c))) ∧ Below w.heap.size w w' := by
  have HV : Hid (∀ W, Calls Tryd.prog 31 #[.agg #[.int .i64 c, .int .i64 m]] W fun r w' => r = .returned (.bool true) ∧ Below W.heap.size W w') := fun W => by rw [← hv]; exact valid_any c m W
  obtain ⟨N, hN⟩ : ∃ N, str (bareF c) = N := ⟨_, rfl⟩
  have HNs : Hid (N.size ≤ 9 ∧ N.data.toList = bareF c) := by rw [← hN]; exact ⟨bare_len c, rfl⟩
  have HBn : Hid (∀ W, Below w.heap.size w W → Calls Tryd.prog 32 #[.int .i64 c] W fun r w' => r = .returned (.string N) ∧ Below W.heap.size W w') := fun W hW => by rw [← hN]; exact bareName_any c h0 h1 (hT.below hW)
  obtain ⟨cs, hcs⟩ : ∃ cs, mdCs = cs := ⟨_, rfl⟩
  have HC : Hid (∀ W, Below w.heap.size w W → W.rangeAt 0 0 cs) := fun W hW => by rw [← hcs]; exact (hT.below hW).md
  have HHi : Hid ((Tryd.prog.info? 60).map (·.size) = some cs.length) := by rw [← hcs]; exact md_info
  have HAt : Hid (∀ k : Nat, k < 3 → ∃ a b, mdT[k]? = some (a, b) ∧ ∀ W : World, (Instr.index 60 (.agg cs.toArray) (.int .i64 (k : Int))).run Tryd.prog W = .ok (.agg #[.int .i64 a, .string (str b)]) W) := fun k hk => by rw [← hcs]; exact md_at ⟨k, hk⟩
  obtain ⟨R, hR⟩ : ∃ R, str (modF m ++ bareF c) = R := ⟨_, rfl⟩
  have HR := hidK hR
  rw [hR]
  have e0 : (m == 0) = false := by simp; omega
  have HMm : Hid (0 ≤ m ∧ m ≤ 7) := ⟨by omega, hm7⟩
  obtain ⟨W, hW⟩ : ∃ W, w.alloc (.cells #[.int .i64 c, .int .i64 m] 36) = W := ⟨_, rfl⟩
  have HW := hidK hW
  obtain ⟨K, hK⟩ : ∃ K, w.heap.size = K := ⟨_, rfl⟩
  have HK := hidK hK
  have HBW : Hid (Below w.heap.size w W) := by rw [← hW]; exact (Below.refl _ _).alloc (Nat.le_refl _) _
  have hkw : W.heap[K]? = some (.cells #[.int .i64 c, .int .i64 m] 36 (0, 0)) := by rw [← hW, ← hK]; exact heap_alloc_new w _
  have HKW := hidK hkw
  have k0 := cell_at hkw 0
  have k1 := cell_at hkw 1
  simp only [Array.getElem?_eq_getElem, List.size_toArray, List.length_cons, List.length_nil, Nat.zero_add, Nat.reduceAdd, Nat.reduceLT, Nat.zero_lt_succ, List.getElem_toArray, List.getElem_cons_zero, List.getElem_cons_succ] at k0 k1
  clear hcs hR hT hv h0 h1 hm1 hm7 hN hW hK hkw
  go_enter Tryd.func20, Tryd.ntmps20
  go_wp2_with fail
  rw [HW.out, HK.out]
  refine (HV.out _).mono ?_
  rintro e w1 ⟨rfl, hb1⟩
  have HB1 : Hid (Below w.heap.size w w1) := below_step HBW.out hb1
  have hk1 : w1.heap[K]? = some (.cells #[.int .i64 c, .int .i64 m] 36 (0, 0)) := (hb1.block K (lt_block HKW.out)).trans HKW.out
  have HK1 := hidK hk1
  have a0 : w1.cell? ⟨K, 0, none⟩ = some (.int .i64 c) := cell_at hk1 0
  clear k0 k1 hb1 hk1
  go_wp2_with fail
  refine (HBn.out _ HB1.out).mono ?_
  rintro e w2 ⟨rfl, hb2⟩
  have HB2 : Hid (Below w.heap.size w w2) := below_step HB1.out hb2
  have hk2 : w2.heap[K]? = some (.cells #[.int .i64 c, .int .i64 m] 36 (0, 0)) := (hb2.block K (lt_block HK1.out)).trans HK1.out
  have HK2 := hidK hk2
  have a1 : w2.cell? ⟨K, 1, none⟩ = some (.int .i64 m) := cell_at hk2 1
  obtain ⟨V, hV⟩ : ∃ V, w2.alloc (.cells #[.pointer none, .slice none 0 0] 58) = V := ⟨_, rfl⟩
  have HVV := hidK hV
  obtain ⟨B, hB⟩ : ∃ B, w2.heap.size = B := ⟨_, rfl⟩
  have HB := hidK hB
  have HBV : Hid (Below w.heap.size w V) := by rw [← hV]; exact below_step HB2.out ((Below.refl _ _).alloc (Nat.le_refl _) _)
  have H0 : Hid (Nm w V K B #[.pointer none, .slice none 0 0] (.slice none 0 0) (preM m 0) c m) := by
    refine ⟨HBV.out, ?_, ⟨by rw [← hV, ← hB]; exact heap_alloc_new w2 _, .inl rfl, rfl, ⟨rfl, .inl ⟨rfl, rfl⟩⟩, by decide, by kernel_rfl⟩, ?_⟩
    · rw [← hV]; exact alloc_at hk2 _
    · have h1 := HK.out
      have h2 := lt_block hk2
      have h3 : V.heap.size = B + 1 := by rw [← hV, ← hB]; simp
      omega
  clear a0 hb2 hk2 hV hB
  go_wp2_with (refine wpList_load_mid rfl 60 (.global 0) rfl 0 0 rfl cs _ (by rw [HVV.out]; exact HC.out V HBV.out) Tryd.underlying60 rfl HHi.out ?_)
  rw [HVV.out, HB.out]
  go_loopw [18] (fun v wr => ∃ i : Nat, i ≤ 3 ∧ v = .int .i64 i ∧ Hid (∃ cs v, Nm w wr K B cs v (preM m i) c m)) (fun v _ => 3 - (intOf v).toNat)
  case atStart => exact ⟨0, Nat.zero_le _, rfl, _, _, H0.out⟩
  case round =>
    obtain ⟨i, hi, rfl, HM⟩ := hrel
    obtain ⟨ds, v, hM⟩ := HM.out
    have HM2 := hidK hM
    clear HM hM
    by_cases hlt : i < 3
    · obtain ⟨a, b, t1, t2⟩ := HAt.out i hlt
      obtain ⟨b1, b2, b3⟩ := bit_has HMm.out.1 HMm.out.2 t1
      obtain ⟨S, hS⟩ : ∃ S, str b = S := ⟨_, rfl⟩
      have HSs : Hid (S.size = 2 ∧ S.data.toList = b) := by rw [← hS]; exact ⟨b3, rfl⟩
      rw [hS] at t2
      obtain ⟨Y, hY⟩ : ∃ Y, wr.alloc (.cells #[.int .i64 a, .string S] 59) = Y := ⟨_, rfl⟩
      have HY := hidK hY
      obtain ⟨Q, hQ⟩ : ∃ Q, wr.heap.size = Q := ⟨_, rfl⟩
      have HQ := hidK hQ
      have hBY : Below wr.heap.size wr Y := by rw [← hY]; exact (Below.refl _ _).alloc (Nat.le_refl _) _
      have HM3 : Hid (Nm w Y K B ds v (preM m i) c m) := HM2.out.more hBY
      have hqb : Y.heap[Q]? = some (.cells #[.int .i64 a, .string S] 59 (0, 0)) := by rw [← hY, ← hQ]; exact heap_alloc_new wr _
      have q0 : Y.cell? ⟨Q, 0, none⟩ = some (.int .i64 a) := cell_at hqb 0
      have q1 : Y.cell? ⟨Q, 1, none⟩ = some (.string S) := cell_at hqb 1
      have q2 : Y.cell? ⟨K, 1, none⟩ = some (.int .i64 m) := cell_at HM3.out.key 1
      have HP := hidK (preM_succ (m := m) t1)
      have HLt : Hid ((preM m i).length ≤ 6) := preM_len m i
      clear hS hBY hqb t1 b3
      cases hh : hasM m a with
      | true =>
        rw [hh, if_pos rfl] at b1
        have HWs : Hid (Calls Tryd.prog 33 #[.pointer (some ⟨B, 0, none⟩), .string S] Y fun e w' => (∃ r, e = .returned r) ∧ ∃ v', BuilderIn w' B B 0 58 ((ds.set! 0 (.pointer (some ⟨B, 0, none⟩))).set! (0 + 1) v') v' (preM m i ++ S.data.toList) ∧ But (B :: v.ownBlock.toList) Y w') := writeString_in S HM3.out.bld HM3.out.kb.2.2 (by have := HSs.out.1; have := HLt.out; omega)
        have HP2 : Hid (preM m i ++ S.data.toList = preM m (i + 1)) := by show _ = _; rw [HP.out, hh, if_pos rfl, HSs.out.2]
        clear hh HP
        go_wp2_with fail
        refine HWs.out.mono ?_
        rintro e w3 ⟨⟨r, rfl⟩, v', hb2, hbut⟩
        have H3 : Hid (∃ cs v, Nm w w3 K B cs v (preM m (i + 1)) c m) := ⟨_, v', by rw [← HP2.out]; exact HM3.out.put hb2 hbut⟩
        clear hb2 hbut q0 q1 q2
        go_wp2_with fail
        go_roundw
        case rel => exact ⟨i + 1, by omega, by first | rfl | go_num, H3⟩
        case measure => simp [intOf]; omega
      | false =>
        rw [hh, if_neg (by decide)] at b1
        have HP2 : Hid (preM m i = preM m (i + 1)) := by show _ = _; rw [HP.out, hh, if_neg (by decide), List.append_nil]
        have H3 : Hid (∃ cs v, Nm w Y K B cs v (preM m (i + 1)) c m) := ⟨_, v, by rw [← HP2.out]; exact HM3.out⟩
        clear hh HP
        go_wp2_with fail
        go_roundw
        case rel => exact ⟨i + 1, by omega, by first | rfl | go_num, H3⟩
        case measure => simp [intOf]; omega
    · have hi3 : i = 3 := by omega
      subst hi3
      have HLt : Hid ((preM m 3).length ≤ 6) := preM_len m 3
      have HWs : Hid (Calls Tryd.prog 33 #[.pointer (some ⟨B, 0, none⟩), .string N] wr fun e w' => (∃ r, e = .returned r) ∧ ∃ v', BuilderIn w' B B 0 58 ((ds.set! 0 (.pointer (some ⟨B, 0, none⟩))).set! (0 + 1) v') v' (preM m 3 ++ N.data.toList) ∧ But (B :: v.ownBlock.toList) wr w') := writeString_in N HM2.out.bld HM2.out.kb.2.2 (by have := HNs.out.1; have := HLt.out; omega)
      have HE : Hid (str (preM m 3 ++ N.data.toList) = R) := by show _ = _; rw [← HR.out, HNs.out.2, preM_all]
      go_wp2_with fail
      refine HWs.out.mono ?_
      rintro e w3 ⟨⟨r, rfl⟩, v', hb2, hbut⟩
      have hN3 := HM2.out.put hb2 hbut
      have HN3 := hidK hN3
      have HSt : Hid (Calls Tryd.prog 34 #[.pointer (some ⟨B, 0, none⟩)] w3 fun e w' => e = .returned (.string R) ∧ Below w.heap.size w w') := by
        have hS := string_in hN3.bld (fun h => absurd h (by
          have hz : 1 ≤ m := by
            have h1 := HMm.out.1
            have h2 : ¬ m = 0 := by simpa using e0
            omega
          rw [preM_all]
          unfold modF
          rcases (by have := HMm.out.2; omega : m = 1 ∨ m = 2 ∨ m = 3 ∨ m = 4 ∨ m = 5 ∨ m = 6 ∨ m = 7) with e | e | e | e | e | e | e <;> subst e <;> simp [hasM]))
        rw [HE.out] at hS
        refine hS.mono ?_
        rintro e w4 ⟨rfl, _, hb4⟩
        refine ⟨rfl, hb4.under hN3.below hN3.below.size fun q hq => ?_⟩
        have h1 := hN3.bld.young (by simpa using hq)
        have h2 := hN3.kb
        omega
      clear hb2 hbut hN3
      go_wp2_with fail
      refine HSt.out.mono ?_
      rintro e w4 ⟨rfl, hb4⟩
      have HB4 := hidK hb4
      clear hb4
      go_wp2_with fail
      go_ret
      exact ⟨rfl, HB4.out⟩
set_option maxHeartbeats 1000000 in
theorem name_bare (c : Int) (hv : validB c 0 = true) (h0 : 0 ≤ c) (h1 : c ≤ 16777239) {w : World} (hT : Tabs w) : Calls Tryd.prog 20 #[.agg #[.int .i64 c, .int .i64 0]] w fun r w' => r = .returned (.string (str (bareF c))) ∧ Below w.heap.size w w' := by
  have HV : Hid (∀ W, Calls Tryd.prog 31 #[.agg #[.int .i64 c, .int .i64 0]] W fun r w' => r = .returned (.bool true) ∧ Below W.heap.size W w') := fun W => by rw [← hv]; exact valid_any c 0 W
  obtain ⟨N, hN⟩ : ∃ N, str (bareF c) = N := ⟨_, rfl⟩
  have HBn : Hid (∀ W, Below w.heap.size w W → Calls Tryd.prog 32 #[.int .i64 c] W fun r w' => r = .returned (.string N) ∧ Below W.heap.size W w') := fun W hW => by rw [← hN]; exact bareName_any c h0 h1 (hT.below hW)
  rw [hN]
  obtain ⟨W, hW⟩ : ∃ W, w.alloc (.cells #[.int .i64 c, .int .i64 0] 36) = W := ⟨_, rfl⟩
  obtain ⟨K, hK⟩ : ∃ K, w.heap.size = K := ⟨_, rfl⟩
  have HBW : Hid (Below w.heap.size w W) := by rw [← hW]; exact (Below.refl _ _).alloc (Nat.le_refl _) _
  have hkw : W.heap[K]? = some (.cells #[.int .i64 c, .int .i64 0] 36 (0, 0)) := by rw [← hW, ← hK]; exact heap_alloc_new w _
  have HKW := hidK hkw
  have k0 : W.cell? ⟨K, 0, none⟩ = some (.int .i64 c) := cell_at hkw 0
  have k1 : W.cell? ⟨K, 1, none⟩ = some (.int .i64 0) := cell_at hkw 1
  have HK := hidK hK
  clear hT hv h0 h1 hN hkw
  go_enter Tryd.func20, Tryd.ntmps20
  go_wp2_with fail
  refine (HV.out _).mono ?_
  rintro e w1 ⟨rfl, hb1⟩
  have HB1 : Hid (Below w.heap.size w w1) := below_step HBW.out hb1
  have hk1 : w1.heap[K]? = some (.cells #[.int .i64 c, .int .i64 0] 36 (0, 0)) := (hb1.block K (lt_block HKW.out)).trans HKW.out
  have HK1 := hidK hk1
  have a0 : w1.cell? ⟨K, 0, none⟩ = some (.int .i64 c) := cell_at hk1 0
  clear k0 k1 hb1 hk1
  go_wp2_with fail
  refine (HBn.out _ HB1.out).mono ?_
  rintro e w2 ⟨rfl, hb2⟩
  have HB2 : Hid (Below w.heap.size w w2) := below_step HB1.out hb2
  have a1 : w2.cell? ⟨K, 1, none⟩ = some (.int .i64 0) := cell_at ((hb2.block K (lt_block HK1.out)).trans HK1.out) 1
  clear a0 hb2
  go_wp2_with fail
  go_ret
  exact ⟨rfl, by first | exact HB2.out | (rw [← HK.out]; exact HB2.out)⟩
set_option maxHeartbeats 1000000 in
theorem name_no (c m : Int) (hv : validB c m = false) (w : World) : Calls Tryd.prog 20 #[.agg #[.int .i64 c, .int .i64 m]] w fun r w' => r = .returned (.string (str [])) ∧ Below w.heap.size w w' := by
  have HV : Hid (∀ W, Calls Tryd.prog 31 #[.agg #[.int .i64 c, .int .i64 m]] W fun r w' => r = .returned (.bool false) ∧ Below W.heap.size W w') := fun W => by rw [← hv]; exact valid_any c m W
  have HFin : Hid (∀ W, Below (w.alloc (.cells #[.int .i64 c, .int .i64 m] 36)).heap.size (w.alloc (.cells #[.int .i64 c, .int .i64 m] 36)) W → Below w.heap.size w W) := fun W h => below_step ((Below.refl _ _).alloc (Nat.le_refl _) _) h
  clear hv
  go_enter Tryd.func20, Tryd.ntmps20
  go_wp2_with fail
  refine (HV.out _).mono ?_
  rintro e w1 ⟨rfl, hb1⟩
  have HB1 := hidK (HFin.out _ hb1)
  clear hb1
  go_wp2_with fail
  go_ret
  exact ⟨rfl, HB1.out⟩
theorem valid_code {c m : Int} (h : validB c m = true) : 0 ≤ c ∧ c ≤ 16777239 ∧ 0 ≤ m ∧ m ≤ 7 := by
  unfold validB at h
  by_cases h1 : c = 32
  · rw [if_pos h1] at h
    simp [plainM, ctrlM] at h
    omega
  · rw [if_neg h1] at h
    by_cases h2 : oneB c = true
    · rw [if_pos h2] at h
      simp [plainM, oneB] at h h2
      omega
    · rw [if_neg h2] at h
      by_cases h3 : c = 16777239
      · rw [if_pos h3] at h
        simp at h
        omega
      · rw [if_neg h3] at h
        by_cases h4 : spcB c = true
        · rw [if_pos h4] at h
          simp [spcB] at h h4
          omega
        · rw [if_neg h4] at h
          simp [plainM, ctrlM, chrB, ctlB] at h
          omega
theorem name_any (c m : Int) {w : World} (hT : Tabs w) : Calls Tryd.prog 20 #[.agg #[.int .i64 c, .int .i64 m]] w fun r w' => r = .returned (.string (str (nameF c m))) ∧ Below w.heap.size w w' := by
  unfold nameF
  cases hv : validB c m with
  | false => rw [if_neg (by decide)]; exact name_no c m hv w
  | true =>
    rw [if_pos rfl]
    obtain ⟨h0, h1, h2, h3⟩ := valid_code hv
    by_cases hm : m = 0
    · subst hm
      exact name_bare c hv h0 h1 hT
    · exact name_mods c m hv h0 h1 (by omega) h3 hT
end Go.Proofs.YtnehkokppobncaaDoor
