/-
  Binds: what one step changes (pure); a step that comes in by itself.
-/
import Derived.Test.YtbonnjilbocldaaDoorBPaA
import Derived.Test.YtbonnjilbocldaaDoorHO
namespace Go.Proofs.YtbonnjilbocldaaDoor
open Go.RowKit Go.ChangeShapes Go.WideShapes Go.Maps
set_option linter.unusedVariables false
set_option maxRecDepth 100000

theorem bndOk_iff {D : DataW Unit} {e : Ent} : bndOk D e = true ↔ ¬ (wordB e.t = false ∨ validB e.c e.m = false ∨ 8192 < e.ln.size ∨ (Maps.has D e.k = false ∧ 200 ≤ Maps.size D)) := by
  unfold bndOk
  rw [Bool.not_eq_true', decide_eq_false_iff_not]
theorem bnd_put {D : DataW Unit} {e : Ent} (h : bndOk D e = true) : bndD D e.t e.c e.m e.rp e.ln = D.put e.k (meanD e.ln e.rp) := by
  unfold bndD
  rw [show slotK e.t.data.toList e.c e.m = e.k from rfl, if_neg (bndOk_iff.1 h)]
theorem bnd_no {D : DataW Unit} {e : Ent} (h : bndOk D e = false) : bndD D e.t e.c e.m e.rp e.ln = D := by
  unfold bndD
  rw [show slotK e.t.data.toList e.c e.m = e.k from rfl, if_pos (Classical.not_not.1 fun z => by rw [bndOk_iff.2 z] at h; cases h)]
/-- What is not taken changes nothing. -/
theorem took_no {D : DataW Unit} {s : Stp} (h : tookB D s = false ∨ ¬ s.kd = 1 ∧ ¬ s.kd = 2) : doD D s = D := by
  unfold doD
  by_cases h1 : s.kd = 1
  · rw [if_pos h1]
    refine bnd_no ?_
    rcases h with h | h
    · unfold tookB at h
      rwa [if_pos h1] at h
    · exact absurd h1 h.1
  · rw [if_neg h1]
    by_cases h2 : s.kd = 2
    · rw [if_pos h2]
      rcases h with h | h
      · unfold tookB at h
        rw [if_neg h1, if_pos h2] at h
        rw [h]
        rfl
      · exact absurd h2 h.2
    · rw [if_neg h2]
/-- A Bind that is taken. -/
theorem took_put {D : DataW Unit} {s : Stp} (h : tookB D s = true) (hk : s.kd = 1) : doD D s = D.put s.e.k (meanD s.e.ln s.e.rp) := by
  unfold doD
  rw [if_pos hk]
  unfold tookB at h
  rw [if_pos hk] at h
  exact bnd_put h
/-- An Unbind that is taken. -/
theorem took_del {D : DataW Unit} {s : Stp} (h : tookB D s = true) (hk : s.kd = 2) : doD D s = D.del s.e.k := by
  unfold doD
  have h1 : ¬ s.kd = 1 := by omega
  rw [if_neg h1, if_pos hk]
  unfold tookB at h
  rw [if_neg h1, if_pos hk] at h
  rw [if_pos h]
/-- All but one key's binding: the same behind a step that is taken. -/
theorem took_off {D : DataW Unit} {s : Stp} (hw : s.e.wf) (h : tookB D s = true) (hk : s.kd = 1 ∨ s.kd = 2) {l l' : List Ent} (hl : AllL D l) (hl' : AllL (doD D s) l') : l.filter (offB s.e.t s.e.c s.e.m) = l'.filter (offB s.e.t s.e.c s.e.m) := by
  rcases hk with hk | hk
  · rw [took_put h hk] at hl'
    exact off_put hw hl hl'
  · rw [took_del h hk] at hl'
    exact off_del hw hl hl'
theorem open_step {H : Type} {enc : TypeId × Value → H} {W : World} {r : Reach} {b0 base : Nat} {spare : Nat → Bool} {held : Bool} {v : Value} {d : DataW H} {p : List MemPlace} (hv : Value.okWide Tryd.prog W r b0 30 v) (h : DataW.Trod enc Tryd.prog W base spare held 30 v d p) :
    ∃ s : Stp, v = .agg (encS s).toArray ∧ (Light 30 d → s.wf) ∧ ∀ x ∈ p, x.block < W.heap.size := by
  obtain ⟨cs, rfl, hsz⟩ := okWide_struct fieldsBO hv
  obtain ⟨fuel, hf⟩ := h
  obtain ⟨s, h1, h2, h3⟩ := open_opB hf
  refine ⟨s, ?_, h2, fun x hx => by
    have h3' : p = [] := h3
    rw [h3'] at hx
    cases hx⟩
  have : cs.toList = encS s := by simpa [Value.cells] using h1
  rw [← this]
theorem SeeE.but {w w' : World} {d b n : Nat} {D : DataW Unit} (h : Tb w d b n D) {v : Value} {l : List Ent} (hv : SeeE w v l) (hb : But [b] w w') : SeeE w' v l := by
  obtain ⟨a, c, rfl, hc⟩ := hv
  refine ⟨a, c, rfl, fun hne => ?_⟩
  obtain ⟨g, o, rfl, hcell⟩ := hc hne
  refine ⟨g, o, rfl, fun j hj c u hu => ?_⟩
  have h1 := hcell j hj c u hu
  refine hb.cellB (fun e => ?_) h1
  obtain ⟨es, clock, hm, _⟩ := h.own
  rw [e] at h1
  unfold World.cell? at h1
  rw [hm] at h1
  cases h1
theorem SeeE.cells {w : World} {ad : Option Addr} {n cp : Nat} {l : List Ent} (h : SeeE w (.slice ad n cp) l) : l ≠ [] → ∃ g o, ad = some ⟨g, o, none⟩ ∧ ∀ j (hj : j < l.length) (c : Nat) u, (encE l[j])[c]? = some u → w.cell? ⟨g, o + j * 5 + c, none⟩ = some u := by
  obtain ⟨a, c, e, hc⟩ := h
  cases e
  exact hc
theorem filt_yes {L : List Ent} {k : Nat} {x : Ent} {p : Ent → Bool} (hx : L[k]? = some x) (hp : p x = true) : (L.take (k + 1)).filter p = (L.take k).filter p ++ [x] := by
  rw [List.take_add_one, hx, List.filter_append]
  simp [hp]
theorem filt_no {L : List Ent} {k : Nat} {x : Ent} {p : Ent → Bool} (hx : L[k]? = some x) (hp : p x = false) : (L.take (k + 1)).filter p = (L.take k).filter p := by
  rw [List.take_add_one, hx, List.filter_append]
  simp [hp]
theorem filt_len (L : List Ent) (k : Nat) (p : Ent → Bool) : ((L.take k).filter p).length ≤ L.length := by
  have h1 := List.length_filter_le p (L.take k)
  rw [List.length_take] at h1
  omega
theorem off_yes {t : ByteArray} {c m : Int} {e : Ent} (h : ¬ (e.t = t ∧ e.c = c ∧ e.m = m)) : offB t c m e = true := offB_iff.2 h
theorem off_no {t : ByteArray} {c m : Int} {e : Ent} (h : e.t = t ∧ e.c = c ∧ e.m = m) : offB t c m e = false := by
  cases q : offB t c m e
  · rfl
  · exact absurd h (offB_iff.1 q)
/-- The tables, the Case and the last step behind some steps. -/
structure On (w wr : World) (q z B : Nat) (p1 p2 rep : Int) (ov : Value) (s : Stp) (D : DataW Unit) (n : Nat) : Prop where
  tb : Tb wr (B + 1) B n D
  ok : Ok D
  cse : wr.heap[q]? = some (.cells #[.int .i64 p1, .int .i64 p2, .int .i64 rep, ov] 26 (0, 0))
  lst : wr.heap[z]? = some (.cells (encS s).toArray 30 (0, 0))
  below : Below w.heap.size w wr
  lo : w.heap.size ≤ q ∧ q < B ∧ z < B
theorem On.more {w wr Y : World} {q z B : Nat} {p1 p2 rep : Int} {ov : Value} {s : Stp} {D : DataW Unit} {n : Nat} (h : On w wr q z B p1 p2 rep ov s D n) (hb : Below wr.heap.size wr Y) : On w Y q z B p1 p2 rep ov s D n :=
  ⟨h.tb.more hb, h.ok, (hb.block q (lt_block h.cse)).trans h.cse, (hb.block z (lt_block h.lst)).trans h.lst, below_step h.below hb, h.lo⟩
theorem On.step {w wr Y : World} {q z B : Nat} {p1 p2 rep : Int} {ov : Value} {s : Stp} {D D' : DataW Unit} {n n' : Nat} (h : On w wr q z B p1 p2 rep ov s D n) (ht : Tn wr Y (B + 1) B n' D') (ho : Ok D') : On w Y q z B p1 p2 rep ov s D' n' := by
  have hlo := h.lo
  exact ⟨ht.tb, ho, (ht.but.block q (lt_block h.cse) (by simp; omega)).trans h.cse, (ht.but.block z (lt_block h.lst) (by simp; omega)).trans h.lst, ht.below h.below (by omega), h.lo⟩
end Go.Proofs.YtbonnjilbocldaaDoor
