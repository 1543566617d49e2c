/-
  Lines of letters, in rows of so many places.
  The law of printable text.
  The law of printable text, walked.
-/
import Derived.Test.YtooahffclghcjaaGreatDoorVLinC
import Derived.Test.YtooahffclghcjaaGreatDoorVNwM
import Derived.Test.YtooahffclghcjaaGreatDoorVSame
namespace Go.Proofs.YtooahffclghcjaaGreatDoor
open Go.RowKit
set_option linter.unusedVariables false
set_option maxRecDepth 100000

def cutF (n : Nat) : Nat → List UInt8 → List (List UInt8)
  | 0, l => [l]
  | f + 1, l => if n < l.length then l.take n :: cutF n f (l.drop n) else [l]
/-- A line, in rows. -/
def cutL (n : Nat) (l : List UInt8) : List (List UInt8) := cutF n l.length l
theorem cutF_fuel {n : Nat} (h : 1 ≤ n) : ∀ (f g : Nat) (l : List UInt8), l.length ≤ f → l.length ≤ g → cutF n f l = cutF n g l
  | 0, 0, _, _, _ => rfl
  | 0, g + 1, l, h1, _ => by
    unfold cutF
    rw [if_neg (by omega)]
  | f + 1, 0, l, _, h2 => by
    unfold cutF
    rw [if_neg (by omega)]
  | f + 1, g + 1, l, h1, h2 => by
    unfold cutF
    split
    · rw [cutF_fuel h f g (l.drop n) (by simp; omega) (by simp; omega)]
    · rfl
theorem cutL_more {n : Nat} (h : 1 ≤ n) {l : List UInt8} (hl : n < l.length) : cutL n l = l.take n :: cutL n (l.drop n) := by
  unfold cutL
  obtain ⟨f, hf⟩ : ∃ f, l.length = f + 1 := ⟨l.length - 1, by omega⟩
  rw [hf]
  show (if n < l.length then l.take n :: cutF n f (l.drop n) else [l]) = _
  rw [if_pos hl, cutF_fuel h f (l.drop n).length (l.drop n) (by simp; omega) (Nat.le_refl _)]
theorem cutL_one {n : Nat} {l : List UInt8} (hl : l.length ≤ n) : cutL n l = [l] := by
  unfold cutL
  cases hf : l.length with
  | zero => rfl
  | succ f =>
    show (if n < l.length then l.take n :: cutF n f (l.drop n) else [l]) = _
    rw [if_neg (by omega)]
theorem typed_all {n : Nat} (h : 1 ≤ n) : ∀ (l t : List UInt8) (L : List (List UInt8)), t.length ≤ n → (l.foldl (fun p c => typed n p.1 p.2 c) (L, t)).1 ++ [(l.foldl (fun p c => typed n p.1 p.2 c) (L, t)).2] = L ++ cutL n (t ++ l)
  | [], t, L, ht => by rw [List.append_nil, cutL_one ht]; rfl
  | c :: r, t, L, ht => by
    rw [List.foldl_cons]
    by_cases h1 : t.length < n
    · have e : typed n (L, t).1 (L, t).2 c = (L, t ++ [c]) := by unfold typed; rw [if_pos h1]
      rw [e, typed_all h r (t ++ [c]) L (by simp; omega), List.append_assoc]
      rfl
    · have e : typed n (L, t).1 (L, t).2 c = (L ++ [t], [c]) := by unfold typed; rw [if_neg h1]
      have hn : t.length = n := by omega
      rw [e, typed_all h r [c] (L ++ [t]) (by simpa using h), cutL_more (l := t ++ c :: r) h (by simp; omega), ← hn, List.take_left', List.drop_left', List.append_assoc]
      · rfl
      · rfl
      · rfl
/-- Which letters of a line are printable. -/
def okB (c : UInt8) : Bool := decide (33 ≤ c.toNat) && decide (c.toNat ≤ 126)
def pr (l : List UInt8) : List UInt8 := l.filter okB
theorem pr_ok {l : List UInt8} : ∀ c ∈ pr l, 33 ≤ c.toNat ∧ c.toNat ≤ 126 := fun c hc => by
  have := (List.mem_filter.1 hc).2
  simpa [okB] using this
theorem pr_len (l : List UInt8) : (pr l).length ≤ l.length := List.length_filter_le ..
/-- All lines. -/
def allL (n : Nat) (ls : List (List UInt8)) : List (List UInt8) := ls.flatMap (fun l => cutL n (pr l))
theorem allL_snoc (n : Nat) (ls : List (List UInt8)) (l : List UInt8) : allL n (ls ++ [l]) = allL n ls ++ cutL n (pr l) := by simp [allL]
/-- What is told. -/
theorem told_all {nh lim : Nat} (L : List (List UInt8)) : old nh lim L ++ vis nh L = (L ++ List.replicate (nh - L.length) []).drop (L.length - nh - lim) := by
  unfold old vis
  rw [List.drop_append_of_le_length (by omega), ← List.append_assoc]
  congr 1
  have h : ∀ a c, c ≤ a → a ≤ L.length → (L.take a).drop c ++ L.drop a = L.drop c := fun a c hc ha => by
    conv => rhs; rw [← List.take_append_drop a L]
    rw [List.drop_append_of_le_length (by rw [List.length_take]; omega)]
  exact h _ _ (by omega) (by omega)
theorem cutL_len {n : Nat} (h : 1 ≤ n) : ∀ (k : Nat) (l : List UInt8), l.length ≤ k → (cutL n l).length ≤ l.length + 1
  | 0, l, hl => by rw [cutL_one (by omega)]; simp
  | k + 1, l, hl => by
    by_cases h1 : n < l.length
    · have := cutL_len h k (l.drop n) (by simp; omega)
      rw [cutL_more h h1, List.length_cons]
      simp at this ⊢
      omega
    · rw [cutL_one (by omega)]; simp
section
variable {w0 w : World} {b G nw nh lim : Nat} {A : List (List UInt8)}
/-- A line is fed. -/
theorem feed_line (n0 : 1 ≤ nw) (n1 : 1 ≤ nh) (n2 : nh ≤ 1000) (n3 : nw ≤ 1000) (n4 : lim ≤ 2000) (l : List UInt8) (hl : l.length ≤ 1000000000) (hok : ∀ c ∈ l, 33 ≤ c.toNat ∧ c.toNat ≤ 126) (hS : Sp w0 w b G nw nh lim (A ++ [[]]) 0 false) :
    Calls Tryz.prog 5 #[.pointer (some ⟨b, 0, none⟩), .string (str (l ++ [13, 10]))] w fun x w' => x = .returned (.tuple #[]) ∧ Fk w w' ∧ Sp w0 w' b G nw nh lim (A ++ cutL nw l ++ [[]]) 0 false := by
  obtain ⟨F, hF⟩ : ∃ F : Nat → List (List UInt8) × List UInt8, F = fun k => (l.take k).foldl (fun p c => typed nw p.1 p.2 c) (A, []) := ⟨_, rfl⟩
  have hFs : ∀ k c, l[k]? = some c → F (k + 1) = typed nw (F k).1 (F k).2 c := fun k c hc => by
    obtain ⟨hi, he⟩ := List.getElem?_eq_some_iff.1 hc
    rw [hF]
    simp only
    rw [List.take_succ_eq_append_getElem hi, List.foldl_append, he]
    rfl
  have hFe : (F l.length).1 ++ [(F l.length).2] = A ++ cutL nw l := by
    rw [hF]
    simp only
    rw [List.take_length, typed_all n0 l [] A (by simp), List.nil_append]
  have key := feed_long (w := w) b (l ++ [13, 10]) (by simp; omega)
    (fun k W => Fk w W ∧ ((k ≤ l.length ∧ ∃ x wt, Sp w0 W b G nw nh lim ((F k).1 ++ [(F k).2]) x wt ∧ Behind nw (F k).2 x wt) ∨ (k = l.length + 1 ∧ Sp w0 W b G nw nh lim (A ++ cutL nw l) 0 false) ∨ (k = l.length + 2 ∧ Sp w0 W b G nw nh lim (A ++ cutL nw l ++ [[]]) 0 false)))
    ⟨Fk.refl _, .inl ⟨Nat.zero_le _, 0, false, by rw [hF]; exact hS, by rw [hF]; exact .inl ⟨rfl, rfl, by simp; omega⟩⟩⟩
    (fun k c W hc hR => by
      obtain ⟨hfk, hR⟩ := hR
      rcases Nat.lt_trichotomy k l.length with hk | hk | hk
      · rw [List.getElem?_append_left hk] at hc
        rcases hR with ⟨_, x, wt, h1, h2⟩ | ⟨h, _⟩ | ⟨h, _⟩
        · have ho := hok c (List.mem_of_getElem? hc)
          refine (take_letter n0 n1 n2 n3 n4 h1 h2 c ho.1 ho.2).mono ?_
          rintro r w' ⟨rfl, hf2, x', wt', h3, h4⟩
          rw [← hFs k c hc] at h3 h4
          exact ⟨rfl, hfk.trans hf2, .inl ⟨by omega, x', wt', h3, h4⟩⟩
        · omega
        · omega
      · rw [hk, List.getElem?_append_right (Nat.le_refl _), Nat.sub_self] at hc
        obtain rfl : c = 13 := by simpa using hc.symm
        rcases hR with ⟨_, x, wt, h1, h2⟩ | ⟨h, _⟩ | ⟨h, _⟩
        · rw [hk, hFe] at h1
          refine (take_cr h1).mono ?_
          rintro r w' ⟨rfl, hf2, h3⟩
          exact ⟨rfl, hfk.trans hf2, .inr (.inl ⟨by omega, h3⟩)⟩
        · omega
        · omega
      · rcases hR with ⟨h, _⟩ | ⟨h, h1⟩ | ⟨h, _⟩
        · omega
        · rw [h, List.getElem?_append_right (by omega), show l.length + 1 - l.length = 1 by omega] at hc
          obtain rfl : c = 10 := by simpa using hc.symm
          refine (take_lf n1 n2 n3 n4 h1).mono ?_
          rintro r w' ⟨rfl, hf2, h3⟩
          exact ⟨rfl, hfk.trans hf2, .inr (.inr ⟨by omega, h3⟩)⟩
        · have := (List.getElem?_eq_some_iff.1 hc).1
          simp at this
          omega)
  refine key.mono ?_
  rintro x w' ⟨rfl, hfk, hR⟩
  rw [List.length_append] at hR
  simp only [List.length_cons, List.length_nil] at hR
  rcases hR with ⟨h, _⟩ | ⟨h, _⟩ | ⟨_, h⟩
  · omega
  · omega
  · exact ⟨rfl, hfk, h⟩
end
/-- A new screen. -/
theorem fresh_sp {w0 w : World} {nw nh lim b G T : Nat} {rs : List (Nat × List Gl)} (n1 : 1 ≤ nh) (h : FrP w nw nh lim b G T rs) (hb : Below w0.heap.size w0 w) (hy : ∀ k ∈ b :: G :: rs.map Prod.fst, w0.heap.size ≤ k) : Sp w0 w b G nw nh lim ([] ++ [[]]) 0 false := by
  refine ⟨newSc nw nh lim G T, rs, [], ⟨⟨h.at_, h.rows, by rw [h.len]; rfl⟩, ⟨Row.nil _ _ _, (fun q hq => by cases hq), (fun g hg => by cases hg), (fun q hq => by cases hq)⟩, hb, hy⟩, ⟨⟨rfl, rfl, rfl, rfl, rfl, rfl, rfl, rfl, rfl, rfl, rfl, rfl, rfl, rfl, rfl, rfl⟩, rfl, ?_, rfl, by simp, ?_, ?_, by simp, by simp⟩⟩
  · show (0 : Int) = _
    simp
    omega
  · have e : vis nh ([] ++ [[]]) = List.replicate nh [] := by
      unfold vis
      rw [List.nil_append, List.length_singleton, show 1 - nh = 0 by omega, List.drop_zero, show nh = nh - 1 + 1 by omega, List.replicate_succ]
      simp
    rw [e, List.map_replicate, rowG_nil]
    apply List.ext_getElem?
    intro i
    rw [List.getElem?_map, List.getElem?_replicate]
    split
    · rename_i hi
      obtain ⟨r, hr⟩ : ∃ r, rs[i]? = some r := ⟨_, List.getElem?_eq_getElem (by rw [h.len]; exact hi)⟩
      rw [hr, Option.map_some, h.alike r (List.mem_of_getElem? hr)]
      rfl
    · rename_i hi
      rw [List.getElem?_eq_none (by rw [h.len]; omega)]
      rfl
  · unfold old
    rw [List.nil_append, List.length_singleton, show 1 - nh = 0 by omega]
    simp
end Go.Proofs.YtooahffclghcjaaGreatDoor
namespace Go.Proofs.YtooahffclghcjaaGreatDoor
open Go.RowKit
set_option linter.unusedVariables false
set_option maxRecDepth 100000

theorem str_getF (l : List UInt8) (k : Nat) (c : UInt8) (h : l[k]? = some c) (hk : k < (str l).size) : (str l)[k] = c := by
  obtain ⟨h1, h2⟩ := List.getElem?_eq_some_iff.1 h
  exact h2
theorem str_dropF (l : List UInt8) (k : Nat) : (str l).extract k (str l).size = str (l.drop k) := by
  apply ByteArray.ext
  apply Array.ext'
  rw [ByteArray.data_extract, Array.toList_extract, List.extract_eq_take_drop]
  show ((l.drop k).take (l.length - k)) = l.drop k
  exact List.take_of_length_le (by rw [List.length_drop]; omega)
theorem str_takeF (l : List UInt8) (k : Nat) : (str l).extract 0 k = str (l.take k) := by
  apply ByteArray.ext
  apply Array.ext'
  rw [ByteArray.data_extract, Array.toList_extract, List.extract_eq_take_drop]
  simp [str]
theorem str_midF (l : List UInt8) (i j : Nat) : (str l).extract i j = str ((l.drop i).take (j - i)) := by
  apply ByteArray.ext
  apply Array.ext'
  rw [ByteArray.data_extract, Array.toList_extract, List.extract_eq_take_drop]
  rfl
theorem str_cat (a b : List UInt8) : str a ++ str b = str (a ++ b) := by
  apply ByteArray.ext
  rw [ByteArray.data_append]
  apply Array.ext'
  rw [Array.toList_append]
  rfl
theorem str_one (x : List UInt8) (k : Nat) (c : UInt8) (h : x[k]? = some c) : (str x).extract k (k + 1) = str [c] := by
  rw [str_midF, show k + 1 - k = 1 by omega]
  congr 1
  obtain ⟨hi, he⟩ := List.getElem?_eq_some_iff.1 h
  rw [List.drop_eq_getElem_cons hi, he]
  rfl
theorem pr_snoc (x : List UInt8) (k : Nat) (c : UInt8) (h : x[k]? = some c) : pr (x.take (k + 1)) = pr (x.take k) ++ (if okB c then [c] else []) := by
  obtain ⟨hi, he⟩ := List.getElem?_eq_some_iff.1 h
  unfold pr
  rw [List.take_succ_eq_append_getElem hi, he, List.filter_append]
  congr 1
  rw [List.filter_cons]
  split <;> rfl
/-- How much lines weigh. -/
def wordsB (c : List (List UInt8)) : Nat := (c.map fun x => x.length + 1).sum
theorem words_mem {c : List (List UInt8)} {x : List UInt8} (h : x ∈ c) : x.length + 1 ≤ wordsB c := by
  unfold wordsB
  induction c with
  | nil => cases h
  | cons y c ih =>
    rw [List.map_cons, List.sum_cons]
    rcases List.mem_cons.1 h with rfl | h
    · omega
    · have := ih h
      omega
theorem words_all {n : Nat} (h : 1 ≤ n) (c : List (List UInt8)) : (allL n c).length ≤ wordsB c := by
  unfold wordsB allL
  induction c with
  | nil => simp
  | cons y c ih =>
    rw [List.flatMap_cons, List.length_append, List.map_cons, List.sum_cons]
    have h1 := cutL_len h (pr y).length (pr y) (Nat.le_refl _)
    have h2 := pr_len y
    omega
theorem words_take (c : List (List UInt8)) (i : Nat) : wordsB (c.take i) ≤ wordsB c := by
  unfold wordsB
  conv => rhs; rw [← List.take_append_drop i c]
  rw [List.map_append, List.sum_append]
  omega
theorem words_len (c : List (List UInt8)) : c.length ≤ wordsB c := by
  unfold wordsB
  induction c with
  | nil => simp
  | cons y c ih =>
    rw [List.length_cons, List.map_cons, List.sum_cons]
    omega
/-- Nothing but texts turns. -/
theorem Scr.texts {w0 w w' : World} {b : Nat} {s : Sc} {G : Nat} {rs : List (Nat × List Gl)} {hs : List (Value × List Gl)} (h : Scr w0 w b s G rs hs) (hk : ∀ (k : Nat) (cs : Array Value) (T : TypeId), T ≠ 9 → w.heap[k]? = some (Obj.cells cs T (0, 0)) → w'.heap[k]? = w.heap[k]?) (hb : Below w0.heap.size w0 w') : Scr w0 w' b s G rs hs := by
  refine ⟨⟨h.scn.at_.keep (hk b _ _ (by decide) h.scn.at_), h.scn.rows.keep (hk G _ _ (by decide) h.scn.rows.blk) (fun r hr => hk r.1 _ _ (by decide) (h.scn.rows.row r hr)), h.scn.val⟩, ⟨h.hist.row.keep (fun g hg => ?_), fun q hq => (h.hist.each q hq).keep (fun g hg => ?_), h.hist.yv, h.hist.ye⟩, hb, h.young⟩
  · obtain ⟨cur, hc⟩ := h.hist.row.block hg
    exact hk g _ _ (by decide) hc
  · obtain ⟨cur, hc⟩ := (h.hist.each q hq).block hg
    exact hk g _ _ (by decide) hc
section
variable {w0 w : World} {b G nw nh lim x : Nat} {L : List (List UInt8)} {wt : Bool}
theorem Sp.texts {w' : World} (h : Sp w0 w b G nw nh lim L x wt) (hk : ∀ (k : Nat) (cs : Array Value) (T : TypeId), T ≠ 9 → w.heap[k]? = some (Obj.cells cs T (0, 0)) → w'.heap[k]? = w.heap[k]?) (hb : Below w0.heap.size w0 w') : Sp w0 w' b G nw nh lim L x wt := by
  obtain ⟨s, rs, hs, h1, h2⟩ := h
  exact ⟨s, rs, hs, h1.texts hk hb, h2⟩
theorem Sp.more {w' : World} (h : Sp w0 w b G nw nh lim L x wt) (hb : Below w.heap.size w w') : Sp w0 w' b G nw nh lim L x wt := by
  obtain ⟨s, rs, hs, h1, h2⟩ := h
  exact ⟨s, rs, hs, h1.more hb, h2⟩
theorem Sp.below (h : Sp w0 w b G nw nh lim L x wt) : Below w0.heap.size w0 w := by
  obtain ⟨s, rs, hs, h1, h2⟩ := h
  exact h1.below
/-- A screen, and the lines that are wanted. -/
def Both (w0 w : World) (b G nw nh lim : Nat) (L : List (List UInt8)) (v : Value) (ts : List (List UInt8)) : Prop := Sp w0 w b G nw nh lim L 0 false ∧ Mine w0 w 9 1 v ts.length (strs ts)
theorem Both.more {w' : World} {v : Value} {ts : List (List UInt8)} (h : Both w0 w b G nw nh lim L v ts) (hb : Below w.heap.size w w') : Both w0 w' b G nw nh lim L v ts := ⟨h.1.more hb, h.2.more hb⟩
theorem Both.add {X w' : World} {v v' : Value} {ts : List (List UInt8)} (t : List UInt8) (h : Both w0 w b G nw nh lim L v ts) (hX : Below w.heap.size w X) (hr : Row w' 9 1 v' (ts.length + 1) (strs ts ++ [.string (str t)])) (hg : Grown X w' v v' v.ownBlock.toList) : Both w0 w' b G nw nh lim L v' (ts ++ [t]) := by
  have h2 := (h.2.grown hX hr hg).cast (n' := (ts ++ [t]).length) (xs' := strs (ts ++ [t])) (by simp) (by unfold strs; rw [List.map_append]; rfl)
  refine ⟨(h.more hX).1.texts (fun k cs T hT hk => hg.but.block k (lt_of_block hk) (fun hm => ?_)) h2.below, h2⟩
  obtain ⟨cur, hc⟩ := (h.more hX).2.row.block (by simpa using hm : v.ownBlock = some k)
  rw [hk] at hc
  simp only [Option.some.injEq, Obj.cells.injEq] at hc
  exact hT hc.2.1
theorem Both.fed {w' : World} {L' : List (List UInt8)} {v : Value} {ts : List (List UInt8)} (h : Both w0 w b G nw nh lim L v ts) (hf : Fk w w') (hs : Sp w0 w' b G nw nh lim L' 0 false) : Both w0 w' b G nw nh lim L' v ts := ⟨hs, hf.row h.2.row, hs.below, h.2.young⟩
end
def lenS : Value → Nat
  | .string s => s.size
  | _ => 0
theorem Row.fromK {w : World} {g o n cap c : Nat} {xs : List Value} (h : Row w 9 1 (.slice (some ⟨g, o, none⟩) n cap) n xs) (hc : c ≤ n) : Row w 9 1 (.slice (some ⟨g, o + c, none⟩) (n - c) (cap - c)) (n - c) (xs.drop c) := by
  obtain ⟨hl, ⟨e, _⟩ | ⟨g', o', cap', cur, e, hg, h1, h2, h3, h4⟩⟩ := h
  · cases e
  · cases e
    refine ⟨by rw [List.length_drop]; omega, .inr ⟨g, o + c, cap - c, cur, rfl, hg, by omega, by omega, by omega, fun j u hu => ?_⟩⟩
    rw [List.getElem?_drop] at hu
    rw [Nat.add_assoc]
    exact h4 (c + j) u hu
theorem strs_txts {w : World} {v : Value} {ts : List (List UInt8)} (h : Row w 9 1 v ts.length (strs ts)) : Txts w v (ts.map str) := by
  unfold Txts
  rw [List.length_map, List.map_map]
  exact h
end Go.Proofs.YtooahffclghcjaaGreatDoor
namespace Go.Proofs.YtooahffclghcjaaGreatDoor
open Go.RowKit
set_option linter.unusedVariables false
set_option maxRecDepth 100000

theorem Row.castR {w : World} {T : TypeId} {k n n' : Nat} {v : Value} {xs xs' : List Value} (h : Row w T k v n xs) (e1 : n = n') (e2 : xs = xs') : Row w T k v n' xs' := by
  subst e1 e2
  exact h
def lenR : Value → Nat
  | .slice _ n _ => n
  | _ => 0
set_option maxHeartbeats 8000000 in
theorem vtPlain_walk (a c l : Int) (ls : List (List UInt8)) (ad : Option Addr) (cap : Nat) (w : World) (hsee : ls ≠ [] → ∃ g o, ad = some ⟨g, o, none⟩ ∧ g < w.heap.size ∧ ∀ (i : Nat) x, ls[i]? = some x → w.cell? ⟨g, o + i, none⟩ = some (.string (str x))) (hbulk : wordsB ls ≤ 1048576) : Calls Tryz.prog 3 #[.agg #[.int .i64 a, .int .i64 c, .int .i64 l], .slice ad ls.length cap] w fun x w' => x = .returned (.bool true) ∧ Below w.heap.size w w' := by
  obtain ⟨W, hW⟩ : ∃ W, w.alloc (.cells #[.int .i64 a, .int .i64 c, .int .i64 l] 23) = W := ⟨_, rfl⟩
  have HW := hidK hW
  obtain ⟨B, hB⟩ : ∃ B, w.heap.size = B := ⟨_, rfl⟩
  have HB := hidK hB
  have hX : W.heap[B]? = some (.cells #[.int .i64 a, .int .i64 c, .int .i64 l] 23 (0, 0)) := by rw [← hB, ← hW]; exact heap_alloc_new w _
  have HBW : Hid (Below w.heap.size w W) := by rw [← hW]; exact (Below.refl _ _).alloc (Nat.le_refl _) _
  have HC : Hid (∀ W', Below W.heap.size W W' → W'.cell? ⟨B, 0, none⟩ = some (.int .i64 a) ∧ W'.cell? ⟨B, 1, none⟩ = some (.int .i64 c) ∧ W'.cell? ⟨B, 2, none⟩ = some (.int .i64 l)) := fun W' hb => by
    have h := (hb.block B (lt_of_block hX)).trans hX
    exact ⟨cell_atT h 0, cell_atT h 1, cell_atT h 2⟩
  obtain ⟨c0, c1, c2⟩ := HC.out W (Below.refl _ _)
  have HLs : Hid (∀ W', Below W.heap.size W W' → ∀ (i : Nat) x, ls[i]? = some x → ∃ g o, ad = some ⟨g, o, none⟩ ∧ W'.cell? ⟨g, o + i, none⟩ = some (.string (str x))) := fun W' hb i x hx => by
    obtain ⟨g, o, e, hg, hc⟩ := hsee (fun e => by rw [e] at hx; simp at hx)
    have hbw := HBW.out.trans (hb.mono HBW.out.size)
    refine ⟨g, o, e, ?_⟩
    have h9 := hc i x hx
    unfold World.cell? at h9 ⊢
    rw [hbw.block g hg]
    exact h9
  have HM := hidK (made_any a c l)
  obtain ⟨n, hn⟩ : ∃ n, ls.length = n := ⟨_, rfl⟩
  have HN := hidK hn
  have hnb : n ≤ 1048576 := by have := words_len ls; omega
  have HBk := hidK hbulk
  rw [hn]
  clear hW hB hX hsee hn hbulk
  go_enter Tryz.func3, Tryz.ntmps3
  go_wp2_with fail
  rw [HW.out, HB.out]
  refine (HM.out _).mono ?_
  rintro x w1 ⟨hb1, rfl | ⟨hz, b, G, T, rs, rb, rv, vs, nw, nh, lim, w00, e1, e2, rfl, hy, hlm, hl1, hl2, hf, hn⟩⟩
  · have HB1 := hidK hb1
    clear hb1 c0 c1 c2
    go_wp2_with fail
    go_ret
    exact ⟨rfl, HBW.out.trans (HB1.out.mono HBW.out.size)⟩
  · have hs : 1 ≤ a ∧ a ≤ 1000 ∧ 1 ≤ c ∧ c ≤ 1000 := of_decide_eq_true hz
    have hll : l = (lim : Int) := by omega
    subst hll
    subst e1
    subst e2
    have n0 : 1 ≤ nw := by omega
    have n1 : 1 ≤ nh := by omega
    have n2 : nh ≤ 1000 := by omega
    have n3 : nw ≤ 1000 := by omega
    have n4 : lim ≤ 2000 := by omega
    have HS0 : Hid (Both W w1 b G nw nh lim (allL nw (ls.take 0) ++ [[]]) (.slice none 0 0) (allL nw (ls.take 0))) := ⟨fresh_sp n1 hf hb1 hy, Mine.nil hb1⟩
    have HAl : Hid (∀ i, (allL nw (ls.take i)).length ≤ 1048576) := fun i => by
      have h1 := words_all n0 (ls.take i)
      have h2 := words_take ls i
      have h3 := HBk.out
      omega
    have HFe : Hid (∀ W' A (q : List UInt8), q.length ≤ 1000000000 → (∀ c ∈ q, 33 ≤ c.toNat ∧ c.toNat ≤ 126) → Sp W W' b G nw nh lim (A ++ [[]]) 0 false → Calls Tryz.prog 5 #[.pointer (some ⟨b, 0, none⟩), .string (str (q ++ [13, 10]))] W' fun x w' => x = .returned (.tuple #[]) ∧ Fk W' w' ∧ Sp W w' b G nw nh lim (A ++ cutL nw q ++ [[]]) 0 false) := fun W' A q h1 h2 h3 => feed_line n0 n1 n2 n3 n4 q h1 h2 h3
    have HLi : Hid (∀ W' L, Sp W W' b G nw nh lim L 0 false → Calls Tryz.prog 7 #[.pointer (some ⟨b, 0, none⟩)] W' fun e w' => ∃ v, e = .returned v ∧ Mine W' w' 9 1 v ((old nh lim L).length + nh) (strs (old nh lim L ++ vis nh L))) := fun W' L h => lines_pg n1 n2 n3 n4 h
    clear hz hs hy hlm hl1 hl2 hf hn c0 c1 c2 HM hb1
    go_wp2_with fail
    go_loopw [8, 9] (fun v i wr => ∃ k : Nat, k ≤ n ∧ i = .int .i64 (k : Int) ∧ Hid (Both W wr b G nw nh lim (allL nw (ls.take k) ++ [[]]) v (allL nw (ls.take k)))) (fun _ i _ => n - (intOf i).toNat)
    case atStart => exact ⟨0, Nat.zero_le _, rfl, HS0⟩
    case round =>
      obtain ⟨i, hi, rfl, HR⟩ := hrel
      by_cases hlt : i < n
      · obtain ⟨x, hx⟩ : ∃ x, ls[i]? = some x := ⟨_, List.getElem?_eq_getElem (by have := HN.out; omega)⟩
        obtain ⟨g, o, hae, cx⟩ := HLs.out wr HR.out.1.below i x hx
        have hxl : x.length ≤ 1048576 := by have h1 := words_mem (List.mem_of_getElem? hx); have h2 := HBk.out; omega
        have HX := hidK hx
        have hzx : (str x).size = x.length := rfl
        have hii : (i : Int) < (n : Int) := by omega
        subst hae
        clear hx
        go_wp2_with fail
        go_loopw [10, 11] (fun lv kv wx => wr = wx ∧ ∃ k : Nat, k ≤ x.length ∧ kv = .int .i64 (k : Int) ∧ lv = .string (str (pr (x.take k)))) (fun _ kv _ => x.length - (intOf kv).toNat)
        case atStart => exact ⟨rfl, 0, Nat.zero_le _, rfl, rfl⟩
        case round =>
          obtain ⟨rfl, k, hk, rfl, rfl⟩ := hrel
          by_cases hlk : k < x.length
          · have hlk2 : k < (str x).size := hlk
            obtain ⟨ch, hc⟩ : ∃ ch, x[k]? = some ch := ⟨_, List.getElem?_eq_getElem hlk⟩
            have hgc : (str x)[k] = ch := (List.getElem?_eq_some_iff.1 hc).2
            have hex := str_one x k ch hc
            have hps := pr_snoc x k ch hc
            have hpl : (pr (x.take k)).length ≤ 1048576 := by have h1 := pr_len (x.take k); have h2 := List.length_take_le k x; omega
            obtain ⟨q, hq⟩ : ∃ q, pr (x.take k) = q := ⟨_, rfl⟩
            rw [hq] at hps hpl
            rw [hq]
            have hqs : (str q).size = q.length := rfl
            have hos : (str [ch]).size = 1 := rfl
            have Hps := hidK hps
            have hcat := str_cat q [ch]
            clear hc hps hq
            by_cases h33 : 33 ≤ ch.toNat
            · by_cases h126 : ch.toNat ≤ 126
              · have i33 : (33 : Int) ≤ (ch.toNat : Int) := by omega
                have i126 : (ch.toNat : Int) ≤ 126 := by omega
                have hokb : okB ch = true := by simp [okB, h33, h126]
                have Hok := hidK hokb
                have hsl := run_slice_string (P := Tryz.prog) wr 9 (str x) .i64 .i64 (k : Int) ((k : Int) + 1) Tryz.underlying9 (by omega) (by omega) (by omega)
                rw [show ((k : Int) + 1).toNat = k + 1 by omega, show ((k : Int)).toNat = k by omega, hex] at hsl
                clear hokb h33 h126
                go_wp2_with fail
                go_roundw
                case rel => exact ⟨trivial, k + 1, by omega, by go_num, by rw [Hps.out, if_pos Hok.out]⟩
                case measure => simp [intOf]; omega
              · have i33 : (33 : Int) ≤ (ch.toNat : Int) := by omega
                have i126 : ¬ (ch.toNat : Int) ≤ 126 := by omega
                have hokb : okB ch = false := by simp [okB, h126]
                have Hok := hidK hokb
                clear hokb h33 h126
                go_wp2_with fail
                go_roundw
                case rel => exact ⟨trivial, k + 1, by omega, by go_num, by rw [Hps.out, if_neg (by rw [Hok.out]; decide), List.append_nil]⟩
                case measure => simp [intOf]; omega
            · have i33 : ¬ (33 : Int) ≤ (ch.toNat : Int) := by omega
              have hokb : okB ch = false := by simp [okB, h33]
              have Hok := hidK hokb
              clear hokb h33
              go_wp2_with fail
              go_roundw
              case rel => exact ⟨trivial, k + 1, by omega, by go_num, by rw [Hps.out, if_neg (by rw [Hok.out]; decide), List.append_nil]⟩
              case measure => simp [intOf]; omega
          · obtain rfl : k = x.length := by omega
            rw [List.take_length]
            have hpl : (pr x).length ≤ 1048576 := by have h1 := pr_len x; omega
            obtain ⟨q, hq⟩ : ∃ q, pr x = q := ⟨_, rfl⟩
            have HQ := hidK hq
            rw [hq] at hpl
            rw [hq]
            have hqs : (str q).size = q.length := rfl
            have hcat := str_cat q [13, 10]
            have he1 : str [13, 10] = ⟨#[13, 10]⟩ := rfl
            rw [he1] at hcat
            have HF1 : Hid (Calls Tryz.prog 5 #[.pointer (some ⟨b, 0, none⟩), .string (str (q ++ [13, 10]))] wr fun x w' => x = .returned (.tuple #[]) ∧ Fk wr w' ∧ Sp W w' b G nw nh lim (allL nw (ls.take i) ++ cutL nw q ++ [[]]) 0 false) := HFe.out wr _ q (by omega) (by rw [← hq]; exact pr_ok) HR.out.1
            clear hq he1
            go_wp2_with fail
            refine HF1.out.mono ?_
            rintro e w2 ⟨rfl, hfk, hs2⟩
            obtain ⟨A, hA⟩ : ∃ A, allL nw (ls.take i) = A := ⟨_, rfl⟩
            have HA := hidK hA
            have hAl : A.length ≤ 1048576 := by rw [← hA]; exact HAl.out i
            have HB2 : Hid (Both W w2 b G nw nh lim (A ++ cutL nw q ++ [[]]) u8 A) := by rw [← hA]; exact HR.out.fed hfk hs2
            have hcl : (cutL nw q).length ≤ 1048577 := by have := cutL_len n0 q.length q (Nat.le_refl _); omega
            clear hfk hs2 cx hA hcat HF1 hqs hzx
            go_wp2_with fail
            go_loopw [8, 10] (fun v lv wx => ∃ r : List UInt8, lv = .string (str r) ∧ r.length ≤ 1048576 ∧ ∃ done : List (List UInt8), Hid (done ++ cutL nw r = cutL nw q) ∧ Hid (Both W wx b G nw nh lim (A ++ cutL nw q ++ [[]]) v (A ++ done))) (fun _ lv _ => lenS lv)
            case atStart => exact ⟨q, rfl, hpl, [], rfl, by rw [List.append_nil]; exact HB2⟩
            case round =>
              obtain ⟨r, rfl, hrl, done, HD, HBo⟩ := hrel
              obtain ⟨c0, c1, c2⟩ := HC.out wr HBo.out.1.below
              have hrs : (str r).size = r.length := rfl
              have hdl : (A ++ done).length ≤ 2100000 := by
                have h1 := congrArg List.length HD.out
                rw [List.length_append] at h1 ⊢
                omega
              obtain ⟨m, hm⟩ : ∃ m, (A ++ done).length = m := ⟨_, rfl⟩
              rw [hm] at hdl
              have HRw : Hid (Row wr 9 1 u8 m (strs (A ++ done))) := by have h := HBo.out.2.row; rw [hm] at h; exact h
              have HMe := hidK hm
              clear c1 c2 hm
              by_cases hgt : nw < r.length
              · have hgi : (nw : Int) < (r.length : Int) := by omega
                have hs1 : ∀ W', (Instr.slice 9 (.string (str r)) none (some (.int .i64 (nw : Int))) none).run Tryz.prog W' = .ok (.string (str (r.take nw))) W' := fun W' => by
                  rw [run_slice_string_h (P := Tryz.prog) W' 9 (str r) Tryz.underlying9 .i64 (nw : Int) (by omega) (by omega), show ((nw : Int)).toNat = nw by omega, str_takeF]
                have hs2 : ∀ W', (Instr.slice 9 (.string (str r)) (some (.int .i64 (nw : Int))) none none).run Tryz.prog W' = .ok (.string (str (r.drop nw))) W' := fun W' => by
                  rw [run_slice_string_l (P := Tryz.prog) W' 9 (str r) Tryz.underlying9 .i64 (nw : Int) (by omega) (by omega), show ((nw : Int)).toNat = nw by omega, str_dropF]
                go_wp2_with (at_builtin; refine wpList_append_row (wr.alloc (.cells #[.string (str (r.take nw))] 9)) rfl (.tmp 75) (.tmp 80) 24 24 rfl underStrs infoStr rfl (v := u8) (by simp [Act.eval]) (u := .slice (some ⟨wr.heap.size, 0, none⟩) 1 1) (by simp [Act.eval]) (HRw.out.below ((Below.refl _ _).alloc (Nat.le_refl _) _)) (Src.block underStrs _ _ [.string (str (r.take nw))] 9 1 (heap_alloc_new wr _) rfl rfl) ?x1 ?x2 ?x3)
                case x1 => omega
                case x2 => unfold maxLen; omega
                intro v2 w3 hr2 hg2
                have HB3 : Hid (Both W w3 b G nw nh lim (A ++ cutL nw q ++ [[]]) v2 (A ++ done ++ [r.take nw])) := HBo.out.add (r.take nw) ((Below.refl _ _).alloc (Nat.le_refl _) _) (by rw [HMe.out]; exact hr2.out) hg2.out
                clear hr2 hg2 c0
                obtain ⟨c0, c1, c2⟩ := HC.out w3 HB3.out.1.below
                clear c1 c2
                go_wp2_with fail
                go_roundw
                case rel => exact ⟨r.drop nw, rfl, by simp; omega, done ++ [r.take nw], by have h1 := HD.out; rw [cutL_more n0 hgt] at h1; rw [List.append_assoc]; exact h1, by rw [← List.append_assoc]; exact HB3⟩
                case measure => simp [lenS, str_size]; omega
              · have hgi : ¬ (nw : Int) < (r.length : Int) := by omega
                have hgn : r.length ≤ nw := by omega
                go_wp2_with (at_builtin; refine wpList_append_row (wr.alloc (.cells #[.string (str r)] 9)) rfl (.tmp 86) (.tmp 88) 24 24 rfl underStrs infoStr rfl (v := u8) (by simp [Act.eval]) (u := .slice (some ⟨wr.heap.size, 0, none⟩) 1 1) (by simp [Act.eval]) (HRw.out.below ((Below.refl _ _).alloc (Nat.le_refl _) _)) (Src.block underStrs _ _ [.string (str r)] 9 1 (heap_alloc_new wr _) rfl rfl) ?y1 ?y2 ?y3)
                case y1 => omega
                case y2 => unfold maxLen; omega
                intro v2 w3 hr2 hg2
                have HB3 : Hid (Both W w3 b G nw nh lim (A ++ cutL nw q ++ [[]]) v2 (A ++ done ++ [r])) := HBo.out.add r ((Below.refl _ _).alloc (Nat.le_refl _) _) (by rw [HMe.out]; exact hr2.out) hg2.out
                clear hr2 hg2 c0
                go_wp2_with fail
                go_roundw
                case rel =>
                  refine ⟨i + 1, by omega, by go_num, ?_⟩
                  have h1 := HD.out
                  rw [cutL_one hgn] at h1
                  have h2 := HB3.out
                  rw [List.append_assoc A done, h1] at h2
                  obtain ⟨hi2, he⟩ := List.getElem?_eq_some_iff.1 HX.out
                  rw [List.take_succ_eq_append_getElem hi2, he, allL_snoc, HA.out, HQ.out]
                  exact h2
                case measure => simp [intOf]; omega
      · obtain rfl : i = n := by omega
        obtain ⟨A, hA⟩ : ∃ A, allL nw (ls.take i) = A := ⟨_, rfl⟩
        have hAl : A.length ≤ 1048576 := by rw [← hA]; exact HAl.out i
        have HR2 : Hid (Both W wr b G nw nh lim (A ++ [[]]) u8 A) := by rw [← hA]; exact HR
        obtain ⟨m, hm⟩ : ∃ m, A.length = m := ⟨_, rfl⟩
        have HMe := hidK hm
        rw [hm] at hAl
        have HRw : Hid (Row wr 9 1 u8 m (strs A)) := by have h := HR2.out.2.row; rw [hm] at h; exact h
        clear hA hm
        go_wp2_with (at_builtin; refine wpList_append_row (wr.alloc (.cells #[.string ⟨#[]⟩] 9)) rfl (.tmp 90) (.tmp 91) 24 24 rfl underStrs infoStr rfl (v := u8) (by simp [Act.eval]) (u := .slice (some ⟨wr.heap.size, 0, none⟩) 1 1) (by simp [Act.eval]) (HRw.out.below ((Below.refl _ _).alloc (Nat.le_refl _) _)) (Src.block underStrs _ _ [.string ⟨#[]⟩] 9 1 (heap_alloc_new wr _) rfl rfl) ?z1 ?z2 ?z3)
        case z1 => omega
        case z2 => unfold maxLen; omega
        intro v2 w3 hr2 hg2
        obtain ⟨L, hL⟩ : ∃ L, A ++ [[]] = L := ⟨_, rfl⟩
        have hLl : L.length = m + 1 := by rw [← hL, List.length_append, HMe.out]; rfl
        have HB3 : Hid (Both W w3 b G nw nh lim L v2 (L ++ List.replicate 0 [])) := by
          rw [List.replicate_zero, List.append_nil, ← hL]
          exact HR2.out.add [] ((Below.refl _ _).alloc (Nat.le_refl _) _) (by rw [HMe.out]; exact hr2.out) hg2.out
        clear hr2 hg2 hL HRw HR HR2 HMe
        go_wp2_with fail
        have HSt : Hid (∀ W' v1 v2 ts, ts.length ≤ 1000000000 → Row W' 9 1 v1 ts.length (strs ts) → Row W' 9 1 v2 ts.length (strs ts) → ts.length ≤ 1000000 → Calls Tryz.prog 6 #[v1, v2] W' fun r w' => r = .returned (.bool true) ∧ Below W'.heap.size W' w') := fun W' v1 v2 ts _ q1 q2 hl => sameTexts_any (ts.map str) (by rw [List.length_map]; exact hl) (strs_txts q1) (strs_txts q2)
        go_loopw [8] (fun v wx => ∃ p : Nat, (p = m + 1 ∨ p ≤ nh) ∧ m + 1 ≤ p ∧ Hid (Both W wx b G nw nh lim L v (L ++ List.replicate (p - (m + 1)) [])) ∧ (∃ va vc, v = .slice va p vc)) (fun v _ => nh - lenR v)
        case atStart =>
          obtain ⟨va, vc, hve, _, _, _, _⟩ := HB3.out.2.row.shape
          exact ⟨m + 1, .inl rfl, Nat.le_refl _, by rw [Nat.sub_self]; exact HB3, va, vc, by rw [hve]; simp [hLl]⟩
        case round =>
          obtain ⟨p, hp1, hp2, HBo, va, vc, rfl⟩ := hrel
          obtain ⟨c0, c1, c2⟩ := HC.out wr HBo.out.1.below
          have hrow : Row wr 9 1 (.slice va p vc) p (strs (L ++ List.replicate (p - (m + 1)) [])) := by have h := HBo.out.2.row; rw [List.length_append, List.length_replicate, hLl, show m + 1 + (p - (m + 1)) = p by omega] at h; exact h
          have HRw := hidK hrow
          by_cases hlt2 : p < nh
          · have hli : (p : Int) < (nh : Int) := by omega
            clear hrow
            go_wp2_with (at_builtin; refine wpList_append_row (wr.alloc (.cells #[.string ⟨#[]⟩] 9)) rfl (.tmp 98) (.tmp 99) 24 24 rfl underStrs infoStr rfl (v := .slice va p vc) (by simp [Act.eval]) (u := .slice (some ⟨wr.heap.size, 0, none⟩) 1 1) (by simp [Act.eval]) (HRw.out.below ((Below.refl _ _).alloc (Nat.le_refl _) _)) (Src.block underStrs _ _ [.string ⟨#[]⟩] 9 1 (heap_alloc_new wr _) rfl rfl) ?u1 ?u2 ?u3)
            case u1 => omega
            case u2 => unfold maxLen; omega
            intro v2 w3 hr2 hg2
            obtain ⟨va2, vc2, hv2, _, _, _, _⟩ := hr2.out.shape
            have HB4 : Hid (Both W w3 b G nw nh lim L v2 (L ++ List.replicate (p + 1 - (m + 1)) [])) := by
              have h := HBo.out.add [] ((Below.refl _ _).alloc (Nat.le_refl _) _) (by rw [List.length_append, List.length_replicate, hLl, show m + 1 + (p - (m + 1)) = p by omega]; exact hr2.out) hg2.out
              rw [List.append_assoc, ← List.replicate_succ', show p - (m + 1) + 1 = p + 1 - (m + 1) by omega] at h
              exact h
            clear hr2 hg2 c0 c1 c2
            subst hv2
            go_wp2_with fail
            go_roundw
            case rel => exact ⟨p + 1, .inr (by omega), by omega, HB4, va2, vc2, rfl⟩
            case measure => simp [lenR]; omega
          · have hli : ¬ (p : Int) < (nh : Int) := by omega
            have hpn : p - (m + 1) = nh - L.length := by rw [hLl]; omega
            have hto : old nh lim L ++ vis nh L = (L ++ List.replicate (p - (m + 1)) []).drop (L.length - nh - lim) := by rw [hpn]; exact told_all L
            have hln : (old nh lim L).length + nh = (old nh lim L ++ vis nh L).length := by rw [List.length_append, vis_len]
            have hol := old_len (nh := nh) (lim := lim) (L := L)
            have hps : p ≤ 1048577 := by omega
            obtain ⟨T0, hT0⟩ : ∃ T0, old nh lim L ++ vis nh L = T0 := ⟨_, rfl⟩
            have HLi2 : Hid (Calls Tryz.prog 7 #[.pointer (some ⟨b, 0, none⟩)] wr fun e w' => ∃ v, e = .returned v ∧ Mine wr w' 9 1 v T0.length (strs T0)) := by
              have h := HLi.out wr L HBo.out.1
              rw [hln, hT0] at h
              exact h
            have htl : T0.length ≤ 3000 := by rw [← hT0, ← hln]; omega
            have HT : Hid (T0 = (L ++ List.replicate (p - (m + 1)) []).drop (L.length - nh - lim)) := by rw [← hT0]; exact hto
            have HPL := hidK (show (L ++ List.replicate (p - (m + 1)) []).length = p by rw [List.length_append, List.length_replicate, hLl]; omega)
            have HLl := hidK hLl
            clear hto hln hT0 hpn
            by_cases hbig : nh + lim < p
            · have hbi : (nh : Int) + (lim : Int) < (p : Int) := by omega
              obtain ⟨k, hk⟩ : ∃ k, p - nh - lim = k := ⟨_, rfl⟩
              have hki : (p : Int) - (nh : Int) - (lim : Int) = (k : Int) := by omega
              have hkp : k < p := by omega
              obtain ⟨_, _, e9, h91, h92, h93, h94⟩ := hrow.shape
              cases e9
              cases va with
              | none => have := (h93 rfl).1; omega
              | some a9 =>
                obtain ⟨g, o, rfl, _, _, _⟩ := h94 a9 rfl
                have hkv : k < vc := by omega
                have hkv2 : (k : Int) ≤ (vc : Int) := by omega
                have hkl : L.length - nh - lim = k := by omega
                have HRk := hidK (hrow.fromK (c := k) (by omega))
                have HKl := hidK hkl
                clear hrow h91 h92 h93 h94 hkl
                have HTl : Hid (Row wr 9 1 (.slice (some ⟨g, o + k, none⟩) (p - k) (vc - k)) T0.length (strs T0)) := HRk.out.castR (by rw [HT.out, HKl.out, List.length_drop, HPL.out]) (by rw [HT.out, HKl.out]; unfold strs; rw [List.map_drop])
                go_wp2_with fail
                refine HLi2.out.mono ?_
                rintro e w4 ⟨v4, rfl, hM4⟩
                obtain ⟨ra, rc, hre, _, _, _, _⟩ := hM4.row.shape
                have HM4 := hidK hM4
                subst hre
                clear hM4
                go_wp2_with fail
                refine (HSt.out _ _ _ T0 (by omega) HM4.out.row (HTl.out.below HM4.out.below) (by omega)).mono ?_
                rintro e w5 ⟨rfl, hb5⟩
                have H5 : Hid (Below W.heap.size W w5) := by
                  have h1 := HBo.out.1.below
                  have h2 := h1.trans (HM4.out.below.mono h1.size)
                  exact h2.trans (hb5.mono h2.size)
                clear hb5
                go_wp2_with fail
                go_ret
                exact ⟨rfl, HBW.out.trans (H5.out.mono HBW.out.size)⟩
            · have hbi : ¬ (nh : Int) + (lim : Int) < (p : Int) := by omega
              have hkl : L.length - nh - lim = 0 := by omega
              have HKl := hidK hkl
              clear hrow hkl
              have HTl : Hid (Row wr 9 1 (.slice va p vc) T0.length (strs T0)) := HRw.out.castR (by rw [HT.out, HKl.out, List.drop_zero, HPL.out]) (by rw [HT.out, HKl.out, List.drop_zero])
              go_wp2_with fail
              refine HLi2.out.mono ?_
              rintro e w4 ⟨v4, rfl, hM4⟩
              obtain ⟨ra, rc, hre, _, _, _, _⟩ := hM4.row.shape
              have HM4 := hidK hM4
              subst hre
              clear hM4
              go_wp2_with fail
              refine (HSt.out _ _ _ T0 (by omega) HM4.out.row (HTl.out.below HM4.out.below) (by omega)).mono ?_
              rintro e w5 ⟨rfl, hb5⟩
              have H5 : Hid (Below W.heap.size W w5) := by
                have h1 := HBo.out.1.below
                have h2 := h1.trans (HM4.out.below.mono h1.size)
                exact h2.trans (hb5.mono h2.size)
              clear hb5
              go_wp2_with fail
              go_ret
              exact ⟨rfl, HBW.out.trans (H5.out.mono HBW.out.size)⟩
end Go.Proofs.YtooahffclghcjaaGreatDoor
