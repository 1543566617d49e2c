/-
  Binds, the document's beginning: its rows in its order (pure).
-/
import Derived.Test.YtbonnjilbocldaaGreatDoorIA
namespace Go.Proofs.YtbonnjilbocldaaGreatDoor
open Go.RowKit Go.Maps
set_option linter.unusedVariables false
set_option maxRecDepth 100000

/-- The rows that repeat, in the document's order. -/
def rw0 : Rw := ⟨⟨#[]⟩, ⟨#[]⟩, 0, 0⟩
def wayL : List Rw := [repL.getD 0 rw0, repL.getD 4 rw0, repL.getD 1 rw0, repL.getD 5 rw0, repL.getD 2 rw0, repL.getD 6 rw0, repL.getD 3 rw0, repL.getD 7 rw0]
/-- All rows, with their table and whether they repeat. -/
def docR : List (ByteArray × Bool × Rw) := (preL 10).map (fun r => (prefixS, false, r)) ++ wayL.map (fun r => (prefixS, true, r)) ++ cpyL.map (fun r => (copyS, false, r))
def docL : List Ent := docR.map fun x => entOf x.1 x.2.1 x.2.2
theorem docR_len : docR.length = 60 := by kernel_rfl
theorem docL_len : docL.length = 60 := by kernel_rfl
def sameB (a b : Ent) : Bool := a.t.data.toList == b.t.data.toList && a.c == b.c && a.m == b.m && a.rp == b.rp && a.ln.data.toList == b.ln.data.toList
theorem same_of {a b : Ent} (h : sameB a b = true) : a = b := by
  unfold sameB at h
  simp only [Bool.and_eq_true, beq_iff_eq] at h
  obtain ⟨⟨⟨⟨h1, h2⟩, h3⟩, h4⟩, h5⟩ := h
  exact Ent.ext' ⟨ByteArray.ext (Array.ext' h1), h2, h3⟩ ⟨ByteArray.ext (Array.ext' h5), h4⟩
theorem subset_of {l l' : List Ent} (h : l.all (fun a => l'.any (sameB a)) = true) : ∀ x ∈ l, x ∈ l' := fun x hx => by
  obtain ⟨y, hy, h2⟩ := List.any_eq_true.1 (List.all_eq_true.1 h x hx)
  rw [same_of h2]
  exact hy
theorem doc_sub : ∀ x ∈ docL, x ∈ L0 := subset_of (by kernel_rfl)
theorem sub_doc : ∀ x ∈ L0, x ∈ docL := subset_of (by kernel_rfl)
theorem docL_apart : docL.Pairwise apartE := allApart_pw (by kernel_rfl)
theorem L0_len : L0.length = 60 := by kernel_rfl
/-- The document's beginning is the program's. -/
theorem dc_doc : Dc D0 docL := ⟨⟨is_D0.ok, fun x => ⟨fun h => (is_D0.mem x).1 (doc_sub x h), fun h => sub_doc x ((is_D0.mem x).2 h)⟩, by rw [is_D0.size, L0_len, docL_len]⟩, docL_apart⟩
def goodX (x : ByteArray × Bool × Rw) : Bool := wordB x.1 && decide (x.1.size ≤ 100) && goodR x.2.2 && (readF x.2.2.key.data.toList == some (x.2.2.c, x.2.2.m)) && decide (x.2.2.key.size ≤ 1000)
theorem docR_good : docR.all goodX = true := by kernel_rfl
theorem bndL_fresh {D : DataW Unit} {L : List Ent} (h : Dc D L) {e : Ent} (hw : e.wf) (h1 : wordB e.t = true) (h2 : validB e.c e.m = true) (h3 : e.ln.size ≤ 8192) (hf : ∀ x ∈ L, ¬ (x.t = e.t ∧ x.c = e.c ∧ x.m = e.m)) (hl : L.length < 200) : bndL D L e = L ++ [e] := by
  have hok : bndOk D e = true := by
    unfold bndOk
    simp only [Bool.not_eq_true', decide_eq_false_iff_not]
    rintro (q | q | q | ⟨_, q⟩)
    · rw [h1] at q; cases q
    · rw [h2] at q; cases q
    · omega
    · have := h.is.size
      omega
  unfold bndL
  rw [if_pos hok, off_none hf]
/-- One row more. -/
theorem doc_step {D : DataW Unit} {j : Nat} (h : Dc D (docL.take j)) {tb : ByteArray} {rp : Bool} {r : Rw} (hj : docR[j]? = some (tb, rp, r)) :
    bndL D (docL.take j) ⟨tb, r.c, r.m, rp, r.line⟩ = docL.take (j + 1) ∧ Ent.wf ⟨tb, r.c, r.m, rp, r.line⟩ ∧ readF r.key.data.toList = some (r.c, r.m) ∧ r.key.size ≤ 1000 ∧ r.line.size ≤ 8192 ∧ tb.size ≤ 100 := by
  have hlt : j < docR.length := (List.getElem?_eq_some_iff.1 hj).1
  have hg := List.all_eq_true.1 docR_good _ (List.mem_of_getElem? hj)
  unfold goodX goodR at hg
  simp only [Bool.and_eq_true, decide_eq_true_eq, beq_iff_eq] at hg
  obtain ⟨⟨⟨⟨g1, g2⟩, ⟨⟨⟨g3, g4⟩, g5⟩, g6⟩⟩, g7⟩, g8⟩ := hg
  have hw : Ent.wf ⟨tb, r.c, r.m, rp, r.line⟩ := ⟨by show tb.size ≤ _; omega, g4, g5⟩
  have hd : docL[j]? = some ⟨tb, r.c, r.m, rp, r.line⟩ := by
    unfold docL
    rw [List.getElem?_map, hj]
    rfl
  have hdl : j < docL.length := (List.getElem?_eq_some_iff.1 hd).1
  have hde : docL[j] = ⟨tb, r.c, r.m, rp, r.line⟩ := by
    rw [List.getElem?_eq_getElem hdl] at hd
    exact Option.some.inj hd
  have hsn : docL.take (j + 1) = docL.take j ++ [⟨tb, r.c, r.m, rp, r.line⟩] := by rw [List.take_succ_eq_append_getElem hdl, hde]
  refine ⟨?_, hw, g7, g8, g6, g2⟩
  rw [hsn]
  refine bndL_fresh h hw g1 g3 g6 (fun x hx => ?_) (by rw [List.length_take]; have := docL_len; omega)
  have hp := docL_apart.sublist (List.take_sublist (j + 1) docL)
  rw [hsn] at hp
  exact (List.pairwise_append.1 hp).2.2 x hx _ (by simp)
end Go.Proofs.YtbonnjilbocldaaGreatDoor
