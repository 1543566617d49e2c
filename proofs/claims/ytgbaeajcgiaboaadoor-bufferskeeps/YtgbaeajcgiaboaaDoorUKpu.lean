/-
  Buffers: a text that is kept under its name, told of lists (nothing of the memory).
-/
import Derived.Test.YtgbaeajcgiaboaaDoorUMod
namespace Go.Proofs.YtgbaeajcgiaboaaDoor
open Go.RowKit
set_option linter.unusedVariables false

def keepB : ByteArray := ⟨#[107, 101, 101, 112]⟩
/-- All have names; and what has the kept name has the kept text. -/
def Fit (T : Option ByteArray) (l : List Kp) : Prop := ∀ x ∈ l, 0 < x.n.size ∧ ∀ t, T = some t → x.n = keepB → x.t = t
theorem Fit.sub {T : Option ByteArray} {l l' : List Kp} (h : Fit T l) (hs : l'.Sublist l) : Fit T l' := fun x hx => h x (hs.subset hx)
theorem Fit.cons {T : Option ByteArray} {l : List Kp} (h : Fit T l) {x : Kp} (h1 : 0 < x.n.size) (h2 : T ≠ none → x.n ≠ keepB) : Fit T (x :: l) := fun y hy => by
  rcases List.mem_cons.1 hy with rfl | hy
  · exact ⟨h1, fun t ht e => absurd e (h2 (by rw [ht]; simp))⟩
  · exact h y hy
theorem fit_nil (T : Option ByteArray) : Fit T [] := fun x hx => absurd hx List.not_mem_nil
theorem nm_keep (c : Nat) : nm c ≠ keepB := fun e => by
  have h := congrArg (fun x : ByteArray => x.data.toList.head?) e
  simp only [nm, str_data] at h
  cases h
theorem fit_set {T : Option ByteArray} {s : St} (h : Fit T s.l) (name text : ByteArray) (hn : T ≠ none → name ≠ keepB) : Fit T (setF s name text).1.l := by
  unfold setF
  split
  · exact h
  · split
    · exact Fit.sub (Fit.cons (x := ⟨nm (nx s.l s.c), text, true⟩) h (nm_pos _) (fun _ => nm_keep _)) (trimG_sub _ _)
    · split
      · exact h
      · rename_i hz hw
        unfold nmdF
        split
        · exact Fit.cons (h.sub (List.eraseIdx_sublist _ _)) (word_size (by simpa using hw)).1 hn
        · split
          · exact h
          · exact Fit.cons h (word_size (by simpa using hw)).1 hn
theorem fit_del {T : Option ByteArray} {s : St} (h : Fit T s.l) (name : ByteArray) : Fit T (delF s name).1.l := by
  unfold delF
  split
  · exact h.sub (List.eraseIdx_sublist _ _)
  · exact h
theorem fit_lim {T : Option ByteArray} {s : St} (h : Fit T s.l) (n : Int) : Fit T (limF s n).1.l := by
  unfold limF
  split
  · exact h
  · exact h.sub (trimG_sub _ _)
theorem fit_ren {T : Option ByteArray} {s : St} (h : Fit T s.l) (name to : ByteArray) (hn : T ≠ none → to ≠ keepB) : Fit T (renF s name to).1.l := by
  unfold renF
  split
  · exact h
  · split
    · exact h
    · rename_i hw
      split
      · exact h
      · split
        · exact h
        · intro x hx
          rcases List.mem_or_eq_of_mem_set hx with hx | rfl
          · exact h x hx
          · exact ⟨(word_size (by simpa using hw)).1, fun t ht e => absurd e (hn (by rw [ht]; simp))⟩
theorem word_keep : word keepB = true := by kernel_rfl
/-- What setting the kept text does. -/
theorem set_kept {s : St} {j : Nat} (hG : Good s j) (hj : j ≤ 1000000) (hF : Fit none s.l) {text : ByteArray} (ht : text.size ≤ 65536) :
    (setF s keepB text = (s, emp, 3) ∧ 20 ≤ s.l.length) ∨ ∃ (s1 : St) (x : Kp) (r : List Kp), setF s keepB text = (s1, keepB, 0) ∧ s1.l = x :: r ∧ x.n = keepB ∧ x.t = text ∧ Good s1 (j + 1) ∧ Fit (some text) s1.l := by
  have hg := good_set hG hj keepB text
  have hf := fit_set hF keepB text (fun h => absurd rfl h)
  have e1 : setF s keepB text = nmdF s keepB text := by
    unfold setF
    rw [if_neg (by omega), if_neg (by decide), if_neg (by rw [word_keep]; decide)]
  have key : ∀ (a : Bool) (r : List Kp), (nmdF s keepB text).1.l = ⟨keepB, text, a⟩ :: r → Fit (some text) (setF s keepB text).1.l := fun a r hr => by
    have h1 := hg.one
    have h2 := hf
    rw [e1, hr] at h1 h2 ⊢
    intro y hy
    refine ⟨(h2 y hy).1, fun t ht' e => ?_⟩
    cases ht'
    rcases List.mem_cons.1 hy with rfl | hy
    · rfl
    · exact absurd e.symm ((List.pairwise_cons.1 h1).1 y hy)
  cases hfi : s.l.findIdx? (nmd keepB) with
  | some k =>
    have e2 : nmdF s keepB text = (setOld s keepB text k ((s.l[k]?.map Kp.a).getD false), keepB, 0) := by
      unfold nmdF
      rw [hfi]
    have hk := key _ _ (by rw [e2]; rfl)
    rw [e1, e2] at hk hg
    exact .inr ⟨_, _, _, by rw [e1, e2], rfl, rfl, rfl, hg, hk⟩
  | none =>
    by_cases hn : 20 ≤ named s.l
    · refine .inl ⟨?_, ?_⟩
      · rw [e1]
        unfold nmdF
        rw [hfi]
        exact if_pos hn
      · have := autos_named s.l
        omega
    · have e2 : nmdF s keepB text = (setNew s keepB text, keepB, 0) := by
        unfold nmdF
        rw [hfi]
        exact if_neg hn
      have hk := key _ _ (by rw [e2]; rfl)
      rw [e1, e2] at hk hg
      exact .inr ⟨_, _, _, by rw [e1, e2], rfl, rfl, rfl, hg, hk⟩
/-- What is there is told by its name. -/
theorem get_self {T : Option ByteArray} {s : St} {j : Nat} (hG : Good s j) (hF : Fit T s.l) {i : Nat} (hi : i < s.l.length) : getF s s.l[i].n = (s.l[i].n, s.l[i].t, 0) := by
  have hp := (hF _ (List.getElem_mem hi)).1
  have hm : mnt s.l[i].n s.l = some i := by
    unfold mnt
    rw [if_neg (by omega)]
    refine List.findIdx?_eq_some_iff_getElem.2 ⟨hi, by simp [nmd], fun k hk => ?_⟩
    have := (List.pairwise_iff_getElem.1 hG.one) k i (by omega) hi hk
    simpa [nmd] using this
  unfold getF
  rw [hm]
  simp only [List.getElem?_eq_getElem hi, Option.map_some, Option.getD_some]
/-- Whether a step is passed by. -/
def skp (bt : ByteArray) (o1 : Int) (onm otx : ByteArray) : Bool := !bt.toList.isEmpty && ((onm.toList == bt.toList || (onm.toList.isEmpty && !(o1 == 1))) || (o1 == 4 && otx.toList == bt.toList))
theorem toList_inj {a b : ByteArray} (h : a.toList = b.toList) : a = b := by
  rw [Lib.toList_data, Lib.toList_data] at h
  cases a with
  | mk x => cases b with
    | mk y => exact congrArg ByteArray.mk (by simpa using h)
theorem skp_keep {kd : Int} {nm tx : ByteArray} (h : skp keepB kd nm tx = false) : nm ≠ keepB ∧ (kd = 4 → tx ≠ keepB) := by
  have hk : keepB.toList.isEmpty = false := by kernel_rfl
  unfold skp at h
  rw [hk] at h
  simp only [Bool.not_false, Bool.true_and, Bool.or_eq_false_iff] at h
  refine ⟨fun e => ?_, fun e4 e => ?_⟩
  · have := h.1.1
    rw [e] at this
    simp at this
  · have := h.2
    rw [e, e4] at this
    simp at this
end Go.Proofs.YtgbaeajcgiaboaaDoor
