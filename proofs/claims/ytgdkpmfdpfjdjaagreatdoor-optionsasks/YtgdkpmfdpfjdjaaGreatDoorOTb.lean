/-
  Options: what is set, in memory.
-/
import Derived.Test.YtgdkpmfdpfjdjaaGreatDoorODc
import Derived.Test.YtgdkpmfdpfjdjaaGreatDoorOKnd
namespace Go.Proofs.YtgdkpmfdpfjdjaaGreatDoor
open Go.RowKit Go.Maps
set_option linter.unusedVariables false
set_option maxRecDepth 100000

theorem bst {w a b : World} (h : Below w.heap.size w a) (k : Below a.heap.size a b) : Below w.heap.size w b := h.trans (k.mono h.size)
theorem kpO {X Y : World} {g : Nat} {o : Obj} (hb : Below X.heap.size X Y) (h : X.heap[g]? = some o) : Y.heap[g]? = some o := (hb.block g (lt_block h)).trans h
theorem gen_exitO {E : Exit → Act → World → Prop} {x : Exit} {a : Act} {w : World} (R : World → Prop) (h : R w) (hG : ∀ Y, R Y → E x a Y) : E x a w := hG w h
theorem ret2O {P : Program} {fn : Func} {p u : Tmp} {ty : TypeId} (h : fn.results = #[.cell p ty, .tmp u]) {a : Act} {w : World} {R : Ending → World → Prop} {g : Nat} {t : TypeId} {cs : Array Value} {fr : Nat × Nat} {d : TypeDesc}
    (hp : a.tmps.getD p undef = .pointer (some ⟨g, 0, none⟩)) (hg : w.heap[g]? = some (.cells cs t fr)) (hu : P.underlying ty = some d) (hd : (match d with | .struct _ | .array _ _ => true | _ => false) = true) (hi : (P.info? ty).map (·.size) = some cs.size)
    (hdf : a.defers = []) (hR : R (.returned (.tuple #[.agg cs, a.tmps.getD u undef])) w) : bodyPost P fn R .ret a w := by
  refine bodyPost_ret ?_ hdf hR
  rw [results_cell_tmp h, hp]
  have h1 : (asAddr (.pointer (some ⟨g, 0, none⟩))).run P w = .ok ⟨g, 0, none⟩ w := rfl
  rw [h1]
  simp only [Result.andThen]
  rw [run_loadVar_row w g t ty cs fr d hg hu hd hi]
theorem two_blk {w : World} (A : Array Value) (t : TypeId) : ∃ W, w.alloc (.cells A t) = W ∧ W.heap[w.heap.size]? = some (.cells A t (0, 0)) ∧ Below w.heap.size w W ∧ W.heap.size = w.heap.size + 1 :=
  ⟨_, rfl, heap_alloc_new w _, (Below.refl _ _).alloc (Nat.le_refl _) _, by simp only [World.size_alloc]⟩
/-- What is set, in memory. -/
structure TbD (w : World) (d b n : Nat) (D : DataW Unit) (L : List Ent) : Prop where
  blk : w.heap[d]? = some (.cells #[.map (some b)] 59 (0, 0))
  own : w.ownsMap Tryz.prog 69 heldR b n D
  dc : Dc D L
def Tb (w : World) (d b n : Nat) (L : List Ent) : Prop := ∃ D, TbD w d b n D L
theorem own_same {w Y : World} {b n : Nat} {D : DataW Unit} (h : w.ownsMap Tryz.prog 69 heldR b n D) (hY : Y.heap[b]? = w.heap[b]?) : Y.ownsMap Tryz.prog 69 heldR b n D := by
  obtain ⟨es, clock, hb, r⟩ := h
  exact ⟨es, clock, hY.trans hb, r⟩
theorem TbD.lt {w : World} {d b n : Nat} {D : DataW Unit} {L : List Ent} (h : TbD w d b n D L) : d < w.heap.size ∧ b < w.heap.size := ⟨lt_block h.blk, h.own.lt⟩
theorem TbD.more {w Y : World} {d b n : Nat} {D : DataW Unit} {L : List Ent} (h : TbD w d b n D L) (hb : Below w.heap.size w Y) : TbD Y d b n D L :=
  ⟨(hb.block d h.lt.1).trans h.blk, own_same h.own (hb.block b h.lt.2), h.dc⟩
theorem Tb.lt {w : World} {d b n : Nat} {L : List Ent} (h : Tb w d b n L) : d < w.heap.size ∧ b < w.heap.size := by obtain ⟨D, h⟩ := h; exact h.lt
theorem Tb.more {w Y : World} {d b n : Nat} {L : List Ent} (h : Tb w d b n L) (hb : Below w.heap.size w Y) : Tb Y d b n L := by obtain ⟨D, h⟩ := h; exact ⟨D, h.more hb⟩
theorem Tb.blk {w : World} {d b n : Nat} {L : List Ent} (h : Tb w d b n L) : w.heap[d]? = some (.cells #[.map (some b)] 59 (0, 0)) := by obtain ⟨D, h⟩ := h; exact h.blk
theorem Tb.ne {w : World} {d b n : Nat} {L : List Ent} (h : Tb w d b n L) : d ≠ b := fun e => by
  obtain ⟨D, h⟩ := h
  obtain ⟨es, clock, hb, _⟩ := h.own
  have := h.blk
  rw [e, hb] at this
  cases this
/-- A look into the map. -/
theorem Tb.look {w : World} {d b n : Nat} {L : List Ent} (h : Tb w d b n L) {c m : Int} {t : ByteArray} (hw : keyWf c m t) :
    ∀ Y : World, Y.heap[b]? = w.heap[b]? → (Instr.lookup 57 (.map (some b)) (.agg #[.int .i64 c, .int .i64 m, .string t]) true).run Tryz.prog Y = .ok (.tuple #[.agg #[.string ((atF L c m t).getD ⟨#[]⟩)], .bool (atF L c m t).isSome]) Y := fun Y hY => by
  obtain ⟨D, h⟩ := h
  obtain ⟨v, ps, hrun, hv⟩ := (own_same h.own hY).look_ok slotKeyed underHeld (heldZ Y) (heldR_mk ⟨#[]⟩) hw.key
  obtain ⟨s, rfl, hz⟩ := heldR_inv hv
  obtain ⟨h1, h2⟩ := h.dc.look hw
  rw [h1] at hrun
  have hz2 : D.atKey (slotK c m t.data.toList) zeroD = heldD s := congrArg Prod.fst hz
  have hs : s = (atF L c m t).getD ⟨#[]⟩ := by
    cases q : atF L c m t with
    | some v =>
      have := h2 (by rw [q]; rfl)
      rw [q] at this
      exact heldD_inj (hz2.symm.trans this)
    | none =>
      rw [q] at h1
      have := Maps.atKey_of_not_has h1 zeroD
      exact heldD_inj (hz2.symm.trans this)
  rw [hs] at hrun
  exact hrun
theorem Tb.len {w : World} {d b n : Nat} {L : List Ent} (h : Tb w d b n L) (ty : TypeId) (Y : World) (hY : Y.heap[b]? = w.heap[b]?) : (Builtin.len_ #[57] ty #[.map (some b)]).run Tryz.prog Y = .ok (.int .i64 (L.length : Int)) Y := by
  obtain ⟨D, h⟩ := h
  rw [← h.dc.size]
  exact (own_same h.own hY).len underHeld ty
/-- What a call that turns the map leaves. -/
structure Tn (w w' : World) (d b n : Nat) (L : List Ent) : Prop where
  tb : Tb w' d b n L
  but : But [b] w w'
theorem Tn.of_below {w w' : World} {d b n : Nat} {L : List Ent} (h : Tb w d b n L) (hb : Below w.heap.size w w') : Tn w w' d b n L :=
  ⟨h.more hb, ⟨hb.os, hb.tape, hb.output, hb.size, fun k hk _ => hb.block k hk⟩⟩
/-- The map's block has turned, nothing else. -/
theorem TbD.turned {w Y w5 : World} {d b n n' : Nat} {D D' : DataW Unit} {L L' : List Ent} (h : TbD w d b n D L) (hy : Below w.heap.size w Y) (ho : w5.ownsMap Tryz.prog 69 heldR b n' D') (hd : Dc D' L') (hg : Y.grownBy w5 (some b)) : Tn w w5 d b n' L' := by
  have hlt := h.lt
  have hsz := hy.size
  have hne : d ≠ b := Tb.ne ⟨D, h⟩
  refine ⟨⟨D', ?_, ho, hd⟩, ⟨hg.os.trans hy.os, hg.tape.trans hy.tape, hg.output.trans hy.output, Nat.le_trans hy.size hg.size, fun k hk hb => ?_⟩⟩
  · rw [hg.block d (by omega) (fun e => hne (Option.some.inj e)), hy.block d hlt.1]
    exact h.blk
  · rw [hg.block k (by omega) (fun e => hb (by simp [Option.some.inj e])), hy.block k hk]
theorem step_delete {ops : Array Oper} {o : Oper} {a : Act} {K : Act → World → Prop} {Q : Exit → Act → World → Prop} {E : Prop} (w : World) (hgd : o.guard = none) (m x : Operand)
    (ho : o.op = .call { callee := .builtin .delete, args := #[m, x], argTypes := #[57, 69] }) {b n : Nat} {D : DataW Unit} {key : Value} {kl : Lit}
    (hm : a.eval m = .map (some b)) (hx : a.eval x = key) (hown : w.ownsMap Tryz.prog 69 heldR b n D) (hkey : keyOf Tryz.prog 69 key = some kl)
    (h : ∀ w', Hid (w'.ownsMap Tryz.prog 69 heldR b n (D.del kl) ∧ w.grownBy w' (some b)) → K (a.put o.dst (.tuple #[])) w') : if Region.wanted o (yielded ops a.tmps) = true then Oper.wp Tryz.prog o a w K Q else E := by
  have hw : Region.wanted o (yielded ops a.tmps) = true := by simp [Region.wanted, hgd]
  rw [if_pos hw]
  obtain ⟨w', hrun, h1, h2⟩ := hown.drop slotKeyed underHeld hkey o.type
  unfold Oper.wp
  simp [execOp, ho, resolve, invoke, builtin, hm, hx, hrun, Result.andThen]
  exact h w' ⟨h1, h2.grown⟩
theorem step_update {ops : Array Oper} {o : Oper} {a : Act} {K : Act → World → Prop} {Q : Exit → Act → World → Prop} {E : Prop} (w : World) (hgd : o.guard = none) (m x v : Operand)
    (ho : o.op = .mapUpdate 57 m x v) {b n : Nat} {D d : DataW Unit} {key val : Value} {kl : Lit} {ps : List MemPlace}
    (hm : a.eval m = .map (some b)) (hx : a.eval x = key) (hv : a.eval v = val) (hown : w.ownsMap Tryz.prog 69 heldR b n D) (hn : n < maxLen) (hkey : keyOf Tryz.prog 69 key = some kl) (hval : heldR val = some (d, ps))
    (h : ∀ w', Hid (w'.ownsMap Tryz.prog 69 heldR b (n + 1) (D.put kl d) ∧ w.grownBy w' (some b)) → K (a.put o.dst undef) w') : if Region.wanted o (yielded ops a.tmps) = true then Oper.wp Tryz.prog o a w K Q else E := by
  have hw : Region.wanted o (yielded ops a.tmps) = true := by simp [Region.wanted, hgd]
  rw [if_pos hw]
  obtain ⟨w', hrun, h1, h2⟩ := hown.store slotKeyed underHeld hn hkey hval
  unfold Oper.wp
  simp [execOp, ho, hm, hx, hv, hrun, Result.andThen]
  exact h w' ⟨h1, h2.grown⟩
theorem infoSlot : (Tryz.prog.info? 69).map (·.size) = some 3 := by kernel_rfl
theorem infoOpt : (Tryz.prog.info? 51).map (·.size) = some 5 := by kernel_rfl
theorem five_atO {W : World} {g : Nat} {T : TypeId} {c0 c1 c2 c3 c4 : Value} (h : W.heap[g]? = some (.cells #[c0, c1, c2, c3, c4] T (0, 0))) (v0 v1 v2 v3 v4 : Value) :
    (((((W.setCell ⟨g, 0, none⟩ v0).setCell ⟨g, 1, none⟩ v1).setCell ⟨g, 2, none⟩ v2).setCell ⟨g, 3, none⟩ v3).setCell ⟨g, 4, none⟩ v4).heap[g]? = some (.cells #[v0, v1, v2, v3, v4] T (0, 0)) :=
  put_at (put_at (put_at (put_at (put_at h 0 v0) 1 v1) 2 v2) 3 v3) 4 v4
set_option maxHeartbeats 4000000 in
theorem slotOf_any (c m : Int) (t : ByteArray) (w : World) : Calls Tryz.prog 48 #[.int .i64 c, .int .i64 m, .string t] w fun r w' => r = .returned (.agg #[.int .i64 c, .int .i64 m, .string t]) ∧ Below w.heap.size w w' := by
  obtain ⟨W, hW, h1, h2, h3⟩ := two_blk (w := w) #[.int .i64 0, .int .i64 0, .string ⟨#[]⟩] 69
  obtain ⟨q, hq⟩ : ∃ q, w.heap.size = q := ⟨_, rfl⟩
  rw [hq] at h1
  have H1 := hidK h1
  have H2 := hidK h2
  have HQ := hidK (Nat.le_of_eq hq)
  have c0 := cell_at h1 0
  have c1 := cell_at h1 1
  have c2 := cell_at h1 2
  have f0 := free_at h1 0
  have f1 := free_at h1 1
  have f2 := free_at h1 2
  clear h1 h2 h3
  go_enter Tryz.func48, Tryz.ntmps48
  go_wp2_with fail
  refine ret_kind rfl rfl (three_at H1.out) Tryz.underlying69 rfl infoSlot rfl ⟨rfl, ?_⟩
  exact ((H2.out.setCell HQ.out _).setCell HQ.out _).setCell HQ.out _
end Go.Proofs.YtgdkpmfdpfjdjaaGreatDoor
