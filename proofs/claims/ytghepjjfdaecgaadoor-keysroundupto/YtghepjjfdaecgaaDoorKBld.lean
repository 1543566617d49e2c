/-
  strings.Builder, wherever it lies; small laws of memory.
-/
import Derived.Test.YtghepjjfdaecgaaDoorQRow
import Derived.Test.YtghepjjfdaecgaaDoorKVal
import Derived.OneCell
import Derived.OwnWalk
import Derived.Deep.Draws
import Derived.Lib.Builder
import Derived.Laws.Externs
import Derived.Lib.AppendStr
import Derived.Shelf.RegionOpenPlain
import Derived.Lib.UnsafeStr
namespace Go.Proofs.YtghepjjfdaecgaaDoor
open Go.RowKit
set_option linter.unusedVariables false
set_option maxRecDepth 100000

theorem gen_exit {E : Exit → Act → World → Prop} {x : Exit} {a : Act} {w : World} (R : World → Prop) (h : R w) (hG : ∀ Y, R Y → E x a Y) : E x a w := hG w h
theorem gen_wp {P : Program} {c : Code} {Q : Exit → Act → World → Prop} {a : Act} {w : World} (R : World → Prop) (h : R w) (hG : ∀ Y, R Y → Code.wp P c Q a Y) : Code.wp P c Q a w := hG w h
theorem put_at {w : World} {b : Nat} {cs : Array Value} {T : TypeId} (h : w.heap[b]? = some (.cells cs T (0, 0))) (i : Nat) (v : Value) : (w.setCell ⟨b, i, none⟩ v).heap[b]? = some (.cells (cs.setIfInBounds i v) T (0, 0)) := heap_setCell_same w b i _ _ _ h
theorem put_other {w : World} {b c : Nat} {o : Option Obj} (h : w.heap[b]? = o) (hc : b ≠ c) (i : Nat) (v : Value) : (w.setCell ⟨c, i, none⟩ v).heap[b]? = o := (Below.heap_setCell _ _ _ _ (fun e => hc e)).trans h
theorem alloc_at {w : World} {b : Nat} {o : Obj} (h : w.heap[b]? = some o) (p : Obj) : (w.alloc p).heap[b]? = some o := by rw [Below.heap_alloc _ _ _ (lt_of_block h)]; exact h
theorem But.drew {S : List Nat} {w w' : World} (h : But S w w') : But S w w'.drew := ⟨h.os, h.tape, h.output, h.size, h.block⟩
theorem But.one {w : World} {b : Nat} (i : Nat) (v : Value) : But [b] w (w.setCell ⟨b, i, none⟩ v) := (But.refl _ _).setCell (p := ⟨b, i, none⟩) (.inl (by simp)) v
theorem But.next {w w' : World} {b : Nat} (h : But [b] w w') (i : Nat) (v : Value) : But [b] w (w'.setCell ⟨b, i, none⟩ v) := h.setCell (p := ⟨b, i, none⟩) (.inl (by simp)) v
theorem lt_block {w : World} {b : Nat} {o : Obj} (h : w.heap[b]? = some o) : b < w.heap.size := (Array.getElem?_eq_some_iff.1 h).1
theorem cell_at {w : World} {b : Nat} {cs : Array Value} {t : TypeId} (h : w.heap[b]? = some (.cells cs t (0, 0))) (o : Nat) : w.cell? ⟨b, o, none⟩ = cs[o]? := by simp [World.cell?, h]
theorem free_at {w : World} {b : Nat} {cs : Array Value} {t : TypeId} (h : w.heap[b]? = some (.cells cs t (0, 0))) (o : Nat) : w.frozen? ⟨b, o, none⟩ = false := by simp [World.frozen?, h]
theorem shape_at {w : World} {b : Nat} {cs : Array Value} {t : TypeId} (h : w.heap[b]? = some (.cells cs t (0, 0))) : w.shape? b = some (t, cs.size) := by simp [World.shape?, h]
theorem set_at {w : World} {b : Nat} {cs : Array Value} {t : TypeId} (h : w.heap[b]? = some (.cells cs t (0, 0))) (o : Nat) (v : Value) : (w.setCell ⟨b, o, none⟩ v).heap[b]? = some (.cells (cs.set! o v) t (0, 0)) := by
  have hlt : b < w.heap.size := lt_block h
  have h' : w.heap[b] = .cells cs t (0, 0) := by simpa [Array.getElem?_eq_getElem hlt] using h
  show (w.heap.modify b _)[b]? = _
  rw [Array.getElem?_eq_getElem (by simpa using hlt), Array.getElem_modify_self, h']
  rfl
theorem new_at (w : World) (o : Obj) : (w.alloc o).heap[w.heap.size]? = some o := heap_alloc_new w o

theorem But.grown {S : List Nat} {w w1 w2 : World} {r : Option Nat} (h : But S w w1) (hg : w1.grownBy w2 r) (hr : ∀ k, r = some k → k ∈ S ∨ w.heap.size ≤ k) : But S w w2 :=
  ⟨hg.os.trans h.os, hg.tape.trans h.tape, hg.output.trans h.output, Nat.le_trans h.size hg.size, fun k hk hs => (hg.block k (Nat.lt_of_lt_of_le hk h.size) (fun e => by
    rcases hr k e.symm with h1 | h1
    · exact hs h1
    · omega)).trans (h.block k hk hs)⟩

/-- Bytes appended to what is owned: nothing else turns. -/
theorem wpList_append_bytesG {P : Program} (w : World) {ops : Array Oper} {rest : List Oper} {o : Oper} {a : Act} {Q : Exit → Act → World → Prop} (hgd : o.guard = none) (s x : Operand) (t : TypeId)
    (ho : o.op = .call { callee := .builtin .append, args := #[s, x], argTypes := #[t, t] }) (ht : P.underlying t = some (.slice 5))
    (hinfo : (P.info? 5).map (fun i => (i.zero, i.size, i.bytes)) = some (some (.int .u8 0), 1, 1))
    (B : Nat) (v : Value) (l : List UInt8) (hs : a.eval s = v) (hown : Owns w B v l)
    (ad : Addr) (m c : Nat) (news : List UInt8) (hx : a.eval x = .slice (some ad) m c) (hm : news.length = m) (hnews : ∀ j (hj : j < news.length), w.cell? (ad.add j) = some (bv news[j]))
    (hlen : l.length + m ≤ 140737488355328) (hbase : B ≤ w.heap.size)
    (h : ∀ v' w', Owns w' B v' (l ++ news) → w.grownBy w' v.ownBlock → wpList P ops Q rest (a.put o.dst v') w') : wpList P ops Q (o :: rest) a w := by
  obtain ⟨i0, hi, hz0, hz1, hz2⟩ := info_parts hinfo
  refine wpList_append_own w hgd s x t ho B 5 i0 (.int .u8 0) 1 1 ht hi hz0 hz1 hz2 rfl (by decide) v l.length (l.map bv) hs hown ad m c (news.map bv) hx (by simp [hm]) ?_ ?_ (by unfold maxLen; omega) (by omega) hbase ?_
  · intro j u hu
    rw [List.getElem?_map] at hu
    obtain ⟨b, hb, rfl⟩ := Option.map_eq_some_iff.1 hu
    obtain ⟨hj, rfl⟩ := List.getElem?_eq_some_iff.1 hb
    exact hnews j hj
  · intro u hu
    obtain ⟨b, _, rfl⟩ := List.mem_map.1 hu
    rfl
  · intro v' w' h2 h3 _
    exact h v' w' (Owns.mk h2 (by simp [hm]) (by simp)) h3

/-- A Builder that lies in a block, from a place on. -/
structure BuilderIn (w : World) (B b o : Nat) (T : TypeId) (cs : Array Value) (v : Value) (l : List UInt8) : Prop where
  blk : w.heap[b]? = some (.cells cs T (0, 0))
  adr : cs[o]? = some (.pointer none) ∨ cs[o]? = some (.pointer (some ⟨b, o, none⟩))
  buf : cs[o + 1]? = some v
  own : Owns w B v l
  ty : T ≠ 5
  lies : liesAt Tryd.prog Tryd.prog.depth T (cs.size / Tryd.prog.cellsOf T) o 68 1 = true
theorem BuilderIn.apart {w : World} {B b o : Nat} {T : TypeId} {cs : Array Value} {v : Value} {l : List UInt8} (h : BuilderIn w B b o T cs v l) : v.ownBlock ≠ some b := by
  intro hb
  rcases h.own.2 with ⟨rfl, _⟩ | ⟨g, cap, cur, rfl, _, hg, _⟩
  · cases hb
  · cases hb
    have := hg.symm.trans h.blk
    simp only [Option.some.injEq, Obj.cells.injEq] at this
    exact h.ty this.2.1.symm
theorem Owns.keep {w w' : World} {B : Nat} {v : Value} {l : List UInt8} (h : Owns w B v l) (hk : ∀ g, v.ownBlock = some g → w'.heap[g]? = w.heap[g]?) : Owns w' B v l := by
  refine ⟨h.1, ?_⟩
  rcases h.2 with h0 | ⟨g, cap, cur, rfl, hb, hg, r⟩
  · exact .inl h0
  · exact .inr ⟨g, cap, cur, rfl, hb, (hk g rfl).trans hg, r⟩


theorem infoB : (Tryd.prog.info? 5).map (fun i => (i.zero, i.size, i.bytes)) = some (some (.int .u8 0), 1, 1) := by kernel_rfl
theorem sizeBuilder : (Tryd.prog.info? 68).map (·.size) = some 2 := by kernel_rfl

set_option maxHeartbeats 1000000 in
theorem copyCheck_used (b o : Nat) (w : World) (h0 : w.cell? ⟨b, o, none⟩ = some (.pointer (some ⟨b, o, none⟩))) :
    Calls Tryd.prog 57 #[.pointer (some ⟨b, o, none⟩)] w fun e w' => e = .returned (.tuple #[]) ∧ w' = w := by
  obtain ⟨j, hj, _⟩ := Option.map_eq_some_iff.1 sizeBuilder
  go_enter Tryd.func57, Tryd.ntmps57
  go_wp2
  rw [Lib.run_neq_ptr_same w _ Tryd.underlying66 hj]
  go_wp2
  go_end0
  exact ⟨rfl, rfl⟩

set_option maxHeartbeats 1000000 in
theorem copyCheck_fresh (b o : Nat) (T : TypeId) (n : Nat) (w : World) (h0 : w.cell? ⟨b, o, none⟩ = some (.pointer none)) (hsh : w.shape? b = some (T, n)) (ho : o < n) (hfz : w.frozen? ⟨b, o, none⟩ = false) (hlies : liesAt Tryd.prog Tryd.prog.depth T (n / Tryd.prog.cellsOf T) o 68 1 = true) :
    Calls Tryd.prog 57 #[.pointer (some ⟨b, o, none⟩)] w fun e w' => e = .returned (.tuple #[]) ∧ w' = w.setCell ⟨b, o, none⟩ (.pointer (some ⟨b, o, none⟩)) := by
  obtain ⟨j, hj, hjs⟩ := Option.map_eq_some_iff.1 sizeBuilder
  go_enter Tryd.func57, Tryd.ntmps57
  go_wp2
  rw [Lib.run_to_unsafe w ⟨b, o, none⟩ Tryd.underlying66 Tryd.underlying91 hj (by rw [hjs]; decide) hsh ho]
  simp only [Result.andThen]
  rw [Oper.upon_value]
  go_wp2
  rw [run_callFunc_extern Tryd.func70 (by kernel_rfl) (by kernel_rfl) (by kernel_rfl) (e := Extern.AbiNoEscape.same) (by kernel_rfl)]
  rw [Lib.run_noEscape]
  simp only [Result.andThen]
  rw [Oper.upon_value]
  go_wp2
  rw [Lib.run_from_unsafe w ⟨b, o, none⟩ Tryd.underlying91 Tryd.underlying66 hj hsh hlies]
  simp only [Result.andThen]
  rw [Oper.upon_value]
  go_wp2
  go_end0
  exact ⟨rfl, rfl⟩

theorem set_same (cs : Array Value) (o : Nat) (v : Value) (h : cs[o]? = some v) : cs.set! o v = cs := by
  obtain ⟨h1, h2⟩ := Array.getElem?_eq_some_iff.1 h
  rw [Array.set!_eq_setIfInBounds]
  apply Array.ext
  · simp
  · intro i hi hi2
    rw [Array.getElem_setIfInBounds]
    split
    · rename_i e
      subst e
      exact h2.symm
    · rfl

theorem owns_slice {w : World} {B : Nat} {v : Value} {l : List UInt8} (h : Owns w B v l) : ∃ a n c, v = .slice a n c := by
  rcases h.2 with ⟨rfl, _⟩ | ⟨g, cap, cur, rfl, _⟩
  · exact ⟨_, _, _, rfl⟩
  · exact ⟨_, _, _, rfl⟩

theorem copyCheck_in {w : World} {B b o : Nat} {T : TypeId} {cs : Array Value} {v : Value} {l : List UInt8} (h : BuilderIn w B b o T cs v l) :
    Calls Tryd.prog 57 #[.pointer (some ⟨b, o, none⟩)] w fun e w' => e = .returned (.tuple #[]) ∧ BuilderIn w' B b o T (cs.set! o (.pointer (some ⟨b, o, none⟩))) v l ∧ But [b] w w' := by
  have hos : o + 1 < cs.size := (Array.getElem?_eq_some_iff.1 h.buf).1
  rcases h.adr with ha | ha
  · refine (copyCheck_fresh b o T cs.size w ((cell_at h.blk o).trans ha) (shape_at h.blk) (by omega) (free_at h.blk o) h.lies).mono ?_
    rintro e w' ⟨rfl, rfl⟩
    refine ⟨rfl, ⟨set_at h.blk o _, .inr ?_, ?_, h.own.keep fun g hg => Below.heap_setCell _ _ _ _ (fun e => ?_), h.ty, ?_⟩, (But.refl _ _).setCell (.inl (by simp)) _⟩
    · rw [Array.set!_eq_setIfInBounds, Array.getElem?_setIfInBounds]
      simp
      omega
    · rw [Array.set!_eq_setIfInBounds, Array.getElem?_setIfInBounds]
      simp [h.buf]
    · exact h.apart (by rw [hg, e])
    · rw [Array.set!_eq_setIfInBounds, Array.size_setIfInBounds]
      exact h.lies
  · refine (copyCheck_used b o w ((cell_at h.blk o).trans ha)).mono ?_
    rintro e w' ⟨rfl, rfl⟩
    rw [set_same cs o _ ha]
    exact ⟨rfl, h, But.refl _ _⟩


theorem cellsByte : Tryd.prog.cellsOf 5 = 1 := by kernel_rfl
theorem unsafeString_none (W : World) (q : Option Addr) : (Builtin.unsafeString_ #[85, 3] 9 #[.pointer q, .int .i64 0]).run Tryd.prog W = .ok (.string .empty) W := Lib.run_unsafeString_none W _ _ _ q
theorem But.freeze {S : List Nat} {w w' : World} (h : But S w w') {p : Addr} (hp : p.block ∈ S) (n : Nat) : But S w (w'.freeze p n) := by
  unfold World.freeze
  split
  · exact h
  · refine ⟨h.os, h.tape, h.output, ?_, fun k hk hs => ?_⟩
    · show w.heap.size ≤ (w'.heap.modify p.block _).size
      rw [Array.size_modify]
      exact h.size
    · show (w'.heap.modify p.block _)[k]? = _
      rw [Array.getElem?_modify, if_neg (fun e : p.block = k => hs (e ▸ hp))]
      exact h.block k hk hs

set_option maxHeartbeats 1000000 in
theorem string_some {w : World} {B b o : Nat} {T : TypeId} {cs : Array Value} {v : Value} {l : List UInt8} (h : BuilderIn w B b o T cs v l) (h0 : l ≠ []) :
    Calls Tryd.prog 37 #[.pointer (some ⟨b, o, none⟩)] w fun e w' => e = .returned (.string (str l)) ∧ w'.heap[b]? = some (.cells cs T (0, 0)) ∧ But v.ownBlock.toList w w' := by
  have hl0 : l.length ≠ 0 := by simpa using h0
  have hap := h.apart
  rcases h.own.2 with ⟨_, hz⟩ | ⟨g, cap, cur, rfl, hbg, hg, hnc, hcm, hcs, htake⟩
  · exact absurd hz hl0
  have c1 : w.drew.cell? ⟨b, o + 1, none⟩ = some (.slice (some ⟨g, 0, none⟩) l.length cap) := (cell_at (w := w.drew) h.blk (o + 1)).trans h.buf
  have hSD : (Builtin.unsafeSliceData_ #[52] 85 #[.slice (some ⟨g, 0, none⟩) l.length cap]).run Tryd.prog w.drew = .ok (.pointer (some ⟨g, 0, none⟩)) w.drew := Lib.run_unsafeSliceData_row _ _ _ _ _ _ (by omega)
  have hUS : (Builtin.unsafeString_ #[85, 3] 9 #[.pointer (some ⟨g, 0, none⟩), .int .i64 l.length]).run Tryd.prog w.drew = .ok (.string (str l)) (w.drew.freeze ⟨g, 0, none⟩ l.length) := by
    refine Lib.run_unsafeString_row w.drew 85 3 9 5 Tryd.underlying85 cellsByte g cur.size (by have hg' : w.drew.heap[g]? = some (.cells cur 5 (0, 0)) := hg; simp [World.shape?, hg']) l h0 (by omega) (by unfold maxLen at hcm; omega) ?_
    intro j x hx
    exact World.ownsRow.cells h.own (g := g) rfl j (.int .u8 x.toNat) (by simp [bv, hx])
  have HF : Hid ((w.drew.freeze ⟨g, 0, none⟩ l.length).heap[b]? = some (.cells cs T (0, 0)) ∧ But (Value.slice (some ⟨g, 0, none⟩) l.length cap).ownBlock.toList w (w.drew.freeze ⟨g, 0, none⟩ l.length)) := by
    have hB : But (Value.slice (some ⟨g, 0, none⟩) l.length cap).ownBlock.toList w (w.drew.freeze ⟨g, 0, none⟩ l.length) := (But.refl _ w).drew.freeze (p := ⟨g, 0, none⟩) (by simp [Value.ownBlock]) _
    exact ⟨(hB.block b (lt_block h.blk) (fun e => hap (by simpa [Value.ownBlock, eq_comm] using e))).trans h.blk, hB⟩
  clear h hap hl0 h0 hbg hg hnc hcm hcs htake
  go_enter Tryd.func37, Tryd.ntmps37
  go_wp2
  go_region
  all_goals (go_wp2; go_ret; exact ⟨rfl, HF.out.1, HF.out.2⟩)

set_option maxHeartbeats 1000000 in
theorem string_none {w : World} {b o : Nat} {T : TypeId} {cs : Array Value} (h : w.heap[b]? = some (.cells cs T (0, 0))) (hv : cs[o + 1]? = some (.slice none 0 0)) :
    Calls Tryd.prog 37 #[.pointer (some ⟨b, o, none⟩)] w fun e w' => e = .returned (.string (str [])) ∧ w'.heap[b]? = some (.cells cs T (0, 0)) ∧ But [] w w' := by
  have hUS := unsafeString_none
  have c1 : w.drew.cell? ⟨b, o + 1, none⟩ = some (.slice none 0 0) := (cell_at (w := w.drew) h (o + 1)).trans hv
  have hSD : (Builtin.unsafeSliceData_ #[52] 85 #[.slice none 0 0]).run Tryd.prog w.drew = .ok (.pointer none) w.drew := by kernel_rfl
  have HF : Hid (w.drew.heap[b]? = some (.cells cs T (0, 0)) ∧ But [] w w.drew) := ⟨h, (But.refl _ w).drew⟩
  clear h hv
  go_enter Tryd.func37, Tryd.ntmps37
  go_wp2
  go_region
  all_goals (go_wp2; go_ret; exact ⟨rfl, HF.out.1, HF.out.2⟩)

theorem string_in {w : World} {B b o : Nat} {T : TypeId} {cs : Array Value} {v : Value} {l : List UInt8} (h : BuilderIn w B b o T cs v l) (hv : l = [] → v = .slice none 0 0) :
    Calls Tryd.prog 37 #[.pointer (some ⟨b, o, none⟩)] w fun e w' => e = .returned (.string (str l)) ∧ w'.heap[b]? = some (.cells cs T (0, 0)) ∧ But v.ownBlock.toList w w' := by
  by_cases h0 : l = []
  · subst h0
    have := hv rfl
    subst this
    exact string_none h.blk h.buf
  · exact string_some h h0



set_option maxHeartbeats 1000000 in
theorem writeString_in {w : World} {B b o : Nat} {T : TypeId} {cs : Array Value} {v : Value} {l : List UInt8} (t : ByteArray) (h : BuilderIn w B b o T cs v l) (hB : B ≤ w.heap.size) (hlen : l.length + t.size ≤ 140737488355328) :
    Calls Tryd.prog 36 #[.pointer (some ⟨b, o, none⟩), .string t] w fun e w' => (∃ r, e = .returned r) ∧ ∃ v', BuilderIn w' B b o T ((cs.set! o (.pointer (some ⟨b, o, none⟩))).set! (o + 1) v') v' (l ++ t.data.toList) ∧ But (b :: v.ownBlock.toList) w w' := by
  have HC : Hid (Calls Tryd.prog 57 #[.pointer (some ⟨b, o, none⟩)] w fun e w' => e = .returned (.tuple #[]) ∧ BuilderIn w' B b o T (cs.set! o (.pointer (some ⟨b, o, none⟩))) v l ∧ But [b] w w') := copyCheck_in h
  obtain ⟨ds, hds⟩ : ∃ ds, cs.set! o (.pointer (some ⟨b, o, none⟩)) = ds := ⟨_, rfl⟩
  rw [hds] at HC
  rw [hds]
  have hos : o + 1 < cs.size := (Array.getElem?_eq_some_iff.1 h.buf).1
  have hdz : o + 1 < ds.size := by rw [← hds, Array.set!_eq_setIfInBounds, Array.size_setIfInBounds]; exact hos
  clear h hds hos
  go_enter Tryd.func36, Tryd.ntmps36
  go_wp2_with fail
  refine HC.out.mono ?_
  rintro e w1 ⟨rfl, h1, hb1⟩
  have c1 : w1.cell? ⟨b, o + 1, none⟩ = some v := (cell_at h1.blk (o + 1)).trans h1.buf
  have H1 : Hid (BuilderIn w1 B b o T ds v l) := h1
  have HB1 : Hid (But [b] w w1) := hb1
  have hBw : B ≤ w1.heap.size := Nat.le_trans hB hb1.size
  have hown := h1.own
  clear h1 hb1 HC
  obtain ⟨i0, hi, hz0, hz1, hz2⟩ := info_parts infoB
  go_wp2_with (at_builtin; refine Lib.wpList_append_own_string w1 rfl (.tmp 12) (.tmp 13) 52 9 rfl B 5 i0 Tryd.underlying52 Tryd.underlying9 hi hz0 hz1 hz2 v _ _ rfl hown t rfl ?x0 hlen hBw ?_; (case x0 => unfold maxLen; omega); intro v' w2 hown1 hg2 _; have hown2 : Owns w2 B v' (l ++ t.data.toList) := (Owns.mk hown1 (by simp) (by simp [Lib.strCells, bv, List.map_append])); obtain ⟨f1, d1⟩ : w2.frozen? ⟨b, o + 1, none⟩ = false ∧ w2.cell? ⟨b, o + 1, none⟩ = some v := (by
      have hlt := lt_block H1.out.blk
      have h2 : w2.heap[b]? = some (.cells ds T (0, 0)) := (hg2.block b (by omega) (fun e => H1.out.apart e.symm)).trans H1.out.blk
      exact ⟨free_at h2 _, (cell_at h2 _).trans H1.out.buf⟩); clear hown1; obtain ⟨va, vn, vc, rfl⟩ := owns_slice hown2)
  go_ret2
  have hlt := lt_block H1.out.blk
  have h2 : w2.heap[b]? = some (.cells ds T (0, 0)) := (hg2.block b (by omega) (fun e => H1.out.apart e.symm)).trans H1.out.blk
  have hap : (Value.slice va vn vc).ownBlock ≠ some b := by
    intro hb
    rcases hown2.2 with ⟨e, _⟩ | ⟨g, cap, cur, e, _, hg, _⟩
    · rw [e] at hb
      cases hb
    · rw [e] at hb
      cases hb
      have := hg.symm.trans h2
      simp only [Option.some.injEq, Obj.cells.injEq] at this
      exact H1.out.ty this.2.1.symm
  refine ⟨⟨_, rfl⟩, _, ⟨set_at h2 _ _, ?_, ?_, hown2.keep fun g hg => Below.heap_setCell _ _ _ _ (fun e => hap (by rw [hg, e])), H1.out.ty, ?_⟩, ?_⟩
  · rw [Array.set!_eq_setIfInBounds, Array.getElem?_setIfInBounds]
    simpa using H1.out.adr
  · rw [Array.set!_eq_setIfInBounds, Array.getElem?_setIfInBounds]
    simp
    omega
  · rw [Array.set!_eq_setIfInBounds, Array.size_setIfInBounds]
    exact H1.out.lies
  · refine But.setCell (But.grown (HB1.out.mono fun k _ hk => ?_) hg2 fun k hk => .inl ?_) (.inl (by simp)) _
    · rcases List.mem_cons.1 hk with e | e
      · rw [e]; exact List.mem_cons_self
      · cases e
    · rw [hk]
      simp

end Go.Proofs.YtghepjjfdaecgaaDoor
