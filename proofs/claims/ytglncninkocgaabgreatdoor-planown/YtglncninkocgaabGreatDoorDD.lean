/-
  Plans: other panes put into a layout, by plain functions.
-/
import Derived.Test.YtglncninkocgaabGreatDoorCL
import Derived.Test.YtglncninkocgaabGreatDoorCV
namespace Go.Proofs.YtglncninkocgaabGreatDoor
open Go.RowKit
set_option linter.unusedVariables false

def repC (c : CellV) (p : Int) : CellV := ⟨c.depth, c.kind, c.x, c.y, c.w, c.h, p⟩
/-- Other panes put into a list of cells, in its order. -/
def repL : List CellV → List Int → List CellV
  | [], _ => []
  | c :: l, ps => if c.kind = 1 then repC c (ps.headD 0) :: repL l ps.tail else c :: repL l ps
theorem repL_cons (c : CellV) (l : List CellV) (ps : List Int) : repL (c :: l) ps = if c.kind = 1 then repC c (ps.headD 0) :: repL l ps.tail else c :: repL l ps := rfl
mutual
def Tree.cntL : Tree → Nat
  | .leaf _ _ => 1
  | .split _ _ ts => cntAll ts
def cntAll : List Tree → Nat
  | [] => 0
  | t :: ts => t.cntL + cntAll ts
end
mutual
def Tree.rep : Tree → List Int → Tree
  | .leaf b _, ps => .leaf b (ps.headD 0)
  | .split b k ts, ps => .split b k (repAll ts ps)
def repAll : List Tree → List Int → List Tree
  | [], _ => []
  | t :: ts, ps => t.rep ps :: repAll ts (ps.drop t.cntL)
end
theorem Tree.rep_box (t : Tree) (ps : List Int) : (t.rep ps).box = t.box := by cases t <;> rfl
theorem Tree.rep_kindIs (t : Tree) (ps : List Int) (k : Int) : (t.rep ps).kindIs k = t.kindIs k := by cases t <;> rfl
theorem repAll_length : ∀ (ts : List Tree) (ps : List Int), (repAll ts ps).length = ts.length
  | [], _ => rfl
  | t :: ts, ps => by
    show (repAll ts _).length + 1 = ts.length + 1
    rw [repAll_length ts]
theorem repAll_ext : ∀ (ts : List Tree) (ps : List Int) (k : Int), extAll (repAll ts ps) k = extAll ts k
  | [], _, _ => rfl
  | t :: ts, ps, k => by
    show (t.rep ps).box.ext k + 1 + extAll (repAll ts _) k = t.box.ext k + 1 + extAll ts k
    rw [t.rep_box, repAll_ext ts]
mutual
theorem rep_kinds : ∀ (t : Tree) (ps : List Int), t.kinds → (t.rep ps).kinds
  | .leaf _ _, _, _ => trivial
  | .split _ _ ts, ps, h => ⟨h.1, reps_kinds ts ps h.2⟩
theorem reps_kinds : ∀ (ts : List Tree) (ps : List Int), kindsAll ts → kindsAll (repAll ts ps)
  | [], _, _ => trivial
  | t :: ts, ps, h => ⟨rep_kinds t ps h.1, reps_kinds ts _ h.2⟩
end
mutual
theorem cnt_moved : ∀ (t : Tree) (x y : Int), (t.moved x y).cntL = t.cntL
  | .leaf _ _, _, _ => rfl
  | .split b k ts, x, y => cnts_moved ts k x y
theorem cnts_moved : ∀ (ts : List Tree) (k x y : Int), cntAll (movedAll ts k x y) = cntAll ts
  | [], _, _, _ => rfl
  | t :: ts, k, x, y => by
    unfold movedAll cntAll
    rw [cnt_moved t x y]
    split <;> rw [cnts_moved ts]
end
mutual
theorem rep_moved : ∀ (t : Tree) (ps : List Int) (x y : Int), (t.rep ps).moved x y = (t.moved x y).rep ps
  | .leaf _ _, _, _, _ => rfl
  | .split b k ts, ps, x, y => by
    show Tree.split _ k (movedAll (repAll ts ps) k x y) = Tree.split _ k (repAll (movedAll ts k x y) ps)
    rw [reps_moved ts ps k x y]
theorem reps_moved : ∀ (ts : List Tree) (ps : List Int) (k x y : Int), movedAll (repAll ts ps) k x y = repAll (movedAll ts k x y) ps
  | [], _, _, _, _ => rfl
  | t :: ts, ps, k, x, y => by
    show (t.rep ps).moved x y :: (if k = 2 then movedAll (repAll ts _) k (x + ((t.rep ps).box.ext k + 1)) y else movedAll (repAll ts _) k x (y + ((t.rep ps).box.ext k + 1))) = (t.moved x y).rep ps :: repAll (if k = 2 then movedAll ts k (x + (t.box.ext k + 1)) y else movedAll ts k x (y + (t.box.ext k + 1))) (ps.drop (t.moved x y).cntL)
    rw [t.rep_box, rep_moved t ps x y, cnt_moved t x y]
    split <;> rw [reps_moved ts]
end
mutual
theorem rep_tell : ∀ (t : Tree) (ps : List Int) (d : Int) (r : List CellV), t.kinds → repL (t.tell d ++ r) ps = (t.rep ps).tell d ++ repL r (ps.drop t.cntL)
  | .leaf b p, ps, d, r, h => by
    show repL (⟨d, 1, b.x, b.y, b.w, b.h, p⟩ :: r) ps = ⟨d, 1, b.x, b.y, b.w, b.h, ps.headD 0⟩ :: repL r (ps.drop 1)
    rw [repL_cons, if_pos rfl, List.drop_one]
    rfl
  | .split b k ts, ps, d, r, h => by
    show repL (⟨d, k, b.x, b.y, b.w, b.h, 0⟩ :: (tellAll ts (d + 1) ++ r)) ps = ⟨d, k, b.x, b.y, b.w, b.h, 0⟩ :: (tellAll (repAll ts ps) (d + 1) ++ repL r (ps.drop (cntAll ts)))
    rw [repL_cons]
    rw [if_neg (by show ¬ k = 1; rcases h.1 with e | e <;> omega), reps_tell ts ps (d + 1) r h.2]
theorem reps_tell : ∀ (ts : List Tree) (ps : List Int) (d : Int) (r : List CellV), kindsAll ts → repL (tellAll ts d ++ r) ps = tellAll (repAll ts ps) d ++ repL r (ps.drop (cntAll ts))
  | [], ps, d, r, h => by
    show repL r ps = repL r (ps.drop 0)
    rw [List.drop_zero]
  | t :: ts, ps, d, r, h => by
    show repL ((t.tell d ++ tellAll ts d) ++ r) ps = ((t.rep ps).tell d ++ tellAll (repAll ts (ps.drop t.cntL)) d) ++ repL r (ps.drop (t.cntL + cntAll ts))
    rw [List.append_assoc, rep_tell t ps d _ h.1, reps_tell ts _ d r h.2, List.append_assoc, List.drop_drop]
end
mutual
theorem rep_sound : ∀ (t : Tree) (ps : List Int), (∀ p ∈ ps, idB p = true) → t.cntL ≤ ps.length → t.sound = true → (t.rep ps).sound = true
  | .leaf b p, ps, hp, hl, h => by
    cases ps with
    | nil => exact absurd hl (by show ¬ (1 ≤ 0); omega)
    | cons q r =>
      unfold Tree.sound at h
      unfold Tree.rep Tree.sound
      simp only [Bool.and_eq_true] at h ⊢
      exact ⟨h.1, hp q (List.mem_cons_self ..)⟩
  | .split b k ts, ps, hp, hl, h => by
    unfold Tree.sound at h
    unfold Tree.rep Tree.sound
    simp only [Bool.and_eq_true] at h ⊢
    exact ⟨⟨by rw [repAll_length]; exact h.1.1, h.1.2⟩, reps_sound ts ps b k hp hl h.2.1, by rw [repAll_ext]; exact h.2.2⟩
theorem reps_sound : ∀ (ts : List Tree) (ps : List Int) (b : Box) (k : Int), (∀ p ∈ ps, idB p = true) → cntAll ts ≤ ps.length → soundAll ts b k = true → soundAll (repAll ts ps) b k = true
  | [], _, _, _, _, _, _ => rfl
  | t :: ts, ps, b, k, hp, hl, h => by
    unfold cntAll at hl
    unfold soundAll at h
    unfold repAll soundAll
    simp only [Bool.and_eq_true] at h ⊢
    refine ⟨⟨rep_sound t ps hp (by omega) h.1.1, ?_, ?_⟩, reps_sound ts _ b k (fun p hm => hp p (List.mem_of_mem_drop hm)) (by rw [List.length_drop]; omega) h.2⟩
    · rw [t.rep_kindIs]; exact h.1.2.1
    · rw [t.rep_box]; exact h.1.2.2
end
theorem idsOf_cons (c : CellV) (l : List CellV) : idsOf (c :: l) = if c.kind = 1 then c.p :: idsOf l else idsOf l := by
  unfold idsOf
  rw [List.filter_cons]
  by_cases h : c.kind = 1
  · rw [if_pos (by simpa using h), if_pos h]; rfl
  · rw [if_neg (by simpa using h), if_neg h]
theorem idsOf_app (a b : List CellV) : idsOf (a ++ b) = idsOf a ++ idsOf b := by
  unfold idsOf
  rw [List.filter_append, List.map_append]
theorem repL_ids : ∀ (l : List CellV) (ps : List Int), ps.length = (idsOf l).length → idsOf (repL l ps) = ps
  | [], ps, h => by
    cases ps with
    | nil => rfl
    | cons p r => exact absurd h (by show ¬ (r.length + 1 = 0); omega)
  | c :: l, ps, h => by
    rw [idsOf_cons] at h
    unfold repL
    by_cases hk : c.kind = 1
    · rw [if_pos hk] at h ⊢
      cases ps with
      | nil => exact absurd h (by show ¬ (0 = (idsOf l).length + 1); omega)
      | cons p r =>
        rw [idsOf_cons, if_pos (show (repC c ((p :: r).headD 0)).kind = 1 from hk)]
        show p :: idsOf (repL l r) = p :: r
        rw [repL_ids l r (by simpa using h)]
    · rw [if_neg hk] at h ⊢
      rw [idsOf_cons, if_neg hk]
      exact repL_ids l ps h
theorem repL_length : ∀ (l : List CellV) (ps : List Int), (repL l ps).length = l.length
  | [], _ => rfl
  | c :: l, ps => by
    unfold repL
    split
    · show (repL l _).length + 1 = _; rw [repL_length]; rfl
    · show (repL l _).length + 1 = _; rw [repL_length]; rfl
theorem repL_app : ∀ (a b : List CellV) (ps : List Int), repL (a ++ b) ps = repL a ps ++ repL b (ps.drop (idsOf a).length)
  | [], b, ps => by show repL b ps = repL b (ps.drop 0); rw [List.drop_zero]
  | c :: a, b, ps => by
    show repL (c :: (a ++ b)) ps = _
    rw [repL_cons, repL_cons, idsOf_cons]
    by_cases hk : c.kind = 1
    · rw [if_pos hk, if_pos hk, if_pos hk, repL_app a b]
      show _ = _ :: (repL a ps.tail ++ repL b (ps.drop ((idsOf a).length + 1)))
      rw [← List.drop_one, List.drop_drop, Nat.add_comm 1]
    · rw [if_neg hk, if_neg hk, if_neg hk, repL_app a b]
      rfl
theorem repL_at : ∀ (l : List CellV) (ps : List Int) (i : Nat) (c m : CellV), l[i]? = some c → (repL l ps)[i]? = some m → repC m c.p = c
  | [], ps, i, c, m, h1, h2 => by cases h1
  | x :: l, ps, i, c, m, h1, h2 => by
    unfold repL at h2
    by_cases hk : x.kind = 1
    · rw [if_pos hk] at h2
      cases i with
      | zero => cases h1; cases h2; rfl
      | succ i => exact repL_at l _ i c m h1 h2
    · rw [if_neg hk] at h2
      cases i with
      | zero => cases h1; cases h2; rfl
      | succ i => exact repL_at l _ i c m h1 h2
mutual
theorem cnt_ids : ∀ (t : Tree) (d : Int), t.kinds → (idsOf (t.tell d)).length = t.cntL
  | .leaf b p, d, h => rfl
  | .split b k ts, d, h => by
    show (idsOf (⟨d, k, b.x, b.y, b.w, b.h, 0⟩ :: tellAll ts (d + 1))).length = _
    rw [idsOf_cons, if_neg (by show ¬ k = 1; rcases h.1 with e | e <;> omega)]
    exact cnts_ids ts (d + 1) h.2
theorem cnts_ids : ∀ (ts : List Tree) (d : Int), kindsAll ts → (idsOf (tellAll ts d)).length = cntAll ts
  | [], _, _ => rfl
  | t :: ts, d, h => by
    show (idsOf (t.tell d ++ tellAll ts d)).length = t.cntL + cntAll ts
    rw [idsOf_app, List.length_append, cnt_ids t d h.1, cnts_ids ts d h.2]
end
/-- Which panes may be put in. -/
def mayPut (ps : List Int) : Bool := ps.all idB && decide ps.Nodup
theorem rep_read {l : List CellV} {t : Tree} (h : readF l = some t) (ps : List Int) (hl : ps.length = (idsOf l).length) : checkE (repL l ps) = if mayPut ps then 0 else 40 := by
  have hL := readF_lay h
  have hi := repL_ids l ps hl
  by_cases hm : mayPut ps = true
  · rw [if_pos hm]
    unfold mayPut at hm
    simp only [Bool.and_eq_true, List.all_eq_true, decide_eq_true_eq] at hm
    have hc : t.cntL = ps.length := by rw [hl, ← cnt_ids t 0 hL.kinds, hL.tell]
    have hr : readF (repL l ps) = some (t.rep ps) := by
      refine lay_readF ⟨rep_kinds t ps hL.kinds, rep_sound t ps hm.1 (by omega) hL.sound, by rw [rep_moved, hL.moved], ?_, ?_⟩
      · have := rep_tell t ps 0 [] hL.kinds
        rw [List.append_nil, hL.tell] at this
        rw [this]
        show _ = _ ++ []
        rw [List.append_nil]
      · rw [hi]
        have := (few_len hL.few).1
        unfold fewB
        simp only [Bool.and_eq_true, decide_eq_true_eq]
        exact ⟨by omega, hm.2⟩
    unfold checkE
    rw [hr]
    rfl
  · rw [if_neg hm]
    unfold checkE
    cases hr : readF (repL l ps) with
    | none => rfl
    | some u =>
      exfalso
      apply hm
      have hU := readF_lay hr
      unfold mayPut
      simp only [Bool.and_eq_true, List.all_eq_true, decide_eq_true_eq]
      refine ⟨fun p hp => ?_, by rw [← hi]; exact (few_len hU.few).2⟩
      rw [← hi] at hp
      unfold idsOf at hp
      obtain ⟨c, hc, rfl⟩ := List.mem_map.1 hp
      obtain ⟨hc1, hc2⟩ := List.mem_filter.1 hc
      rw [← hU.tell] at hc1
      have hk : c.kind = 1 := by simpa using hc2
      rcases (fit_tell u 0 c hU.sound hU.kinds hc1).1 with ⟨_, h1, h2⟩ | ⟨h1, _⟩
      · unfold idB
        simp only [Bool.and_eq_true, decide_eq_true_eq]
        exact ⟨h1, h2⟩
      · omega
end Go.Proofs.YtglncninkocgaabGreatDoor
