/-
  A region that draws its order, all of whose operations but the last only read; the last one waits for all of them.
-/
import Derived.Deep.QuietTactic
import Derived.Test.YtcjcekaahooamaaLBox
namespace Go.Proofs.Ytcjcekaahooamaa
open Go.RowKit
set_option linter.unusedVariables false

section
variable {P : Program} {ops : Array Oper} {md : Region.Mode} {C : World → Prop}

def wpAnyL (P : Program) (md : Region.Mode) (ops : Array Oper) (C : World → Prop) (T : Array Bool → Act → Prop) : Nat → Array Bool → Act → Prop
  | 0, listed, a => T listed a
  | fuel + 1, listed, a => Region.ready md ops listed ≠ [] ∧ ∀ i ∈ Region.ready md ops listed, qOp P ops C i (wpAnyL P md ops C T fuel (listed.setIfInBounds i true)) a

theorem wpAny_of_L {T : Array Bool → Act → Prop} {Q : Exit → Act → World → Prop} {m : Nat} (hT : ∀ listed a w, C w → T listed a → wpAny P md ops Q m listed a w) :
    ∀ (fuel : Nat) (listed : Array Bool) (a : Act) (w : World), C w → wpAnyL P md ops C T fuel listed a → wpAny P md ops Q (fuel + m) listed a w
  | 0, _, _, _, hw, h => by rw [Nat.zero_add]; exact hT _ _ _ hw h
  | fuel + 1, _, _, _, hw, h => by
    rw [show fuel + 1 + m = (fuel + m) + 1 by omega]
    exact ⟨fun h0 => absurd h0 h.1, fun i hi => wpOp_of_qOp hw (fun a' w' hw' => wpAny_of_L hT fuel _ a' w' hw') (h.2 i hi)⟩

/-- What has come up came up behind what it waits for. -/
def ClosedL (md : Region.Mode) (ops : Array Oper) (listed : Array Bool) : Prop :=
  ∀ (j : Nat) (oj : Oper), ops[j]? = some oj → listed.getD j true = true → ∀ e ∈ oj.after, Region.binds md e = true → listed.getD e.on false = true
theorem ClosedL.set {listed : Array Bool} (h : ClosedL md ops listed) {j : Nat} (hj : j ∈ Region.ready md ops listed) : ClosedL md ops (listed.setIfInBounds j true) := by
  intro k ok hk hl e he hb
  obtain ⟨_, oj, hoj, hall⟩ := mem_ready.1 hj
  by_cases hjk : j = k
  · subst hjk
    rw [hoj] at hk
    cases hk
    exact getD_set_true (hall e he hb)
  · rw [getD_set_ne true hjk] at hl
    exact getD_set_true (h k ok hk hl e he hb)

/-- All but number n have come up, and n may. -/
def AllBut (md : Region.Mode) (ops : Array Oper) (n : Nat) (listed : Array Bool) : Prop :=
  n ∈ Region.ready md ops listed ∧ (∀ j ∈ Region.ready md ops listed, j = n) ∧ ∀ (j : Nat) (oj : Oper), ops[j]? = some oj → j ≠ n → listed.getD j true = true

theorem unlisted {listed : Array Bool} {i : Nat} (h0 : listed.getD i true = false) (h1 : listed.getD i false = true) : False := by
  rcases Nat.lt_or_ge i listed.size with h' | h'
  · simp [h'] at h0 h1; rw [h0] at h1; cases h1
  · simp [Array.getElem?_eq_none h'] at h1

theorem wpAnyL_first {n : Nat} {U : Act → Prop} {i : Nat} {oi : Oper} {v : Value} (hi : ops[i]? = some oi) (hin : i ≠ n) (hsel : ∀ (j : Nat) (o : Oper) cs b, ops[j]? = some o → o.op ≠ .select cs b)
    (hdep : ∃ (j : Nat) (oj : Oper), ops[j]? = some oj ∧ ∃ e ∈ oj.after, Region.binds md e = true ∧ e.on = i) :
    ∀ (fuel : Nat) (listed : Array Bool) (a : Act), ClosedL md ops listed →
      (∀ (j : Nat) (oj : Oper), ops[j]? = some oj → j ≠ i → listed.getD j true = false → (∀ e ∈ oj.after, Region.binds md e = true → e.on ≠ i) → oi.apart ops oj = true) →
      i ∈ Region.ready md ops listed → YieldsIn P ops C oi v a →
      wpAnyL P md ops C (fun l a => AllBut md ops n l ∧ U a) fuel (listed.setIfInBounds i true) (a.put oi.dst v) → wpAnyL P md ops C (fun l a => AllBut md ops n l ∧ U a) (fuel + 1) listed a := by
  intro fuel
  induction fuel with
  | zero =>
    intro listed a hcl _ hr hy H
    refine ⟨fun h => (by rw [h] at hr; cases hr), fun j hj => ?_⟩
    by_cases hji : j = i
    · subst hji; exact hy.qOp hi H
    · exfalso
      have hjn := H.1.2.1 j (ready_mono hj hji)
      subst hjn
      have hun := (mem_ready.1 hr).1
      obtain ⟨k, ok, hok, e, he, hb, hei⟩ := hdep
      by_cases hkj : k = j
      · subst hkj
        obtain ⟨_, oj, hoj, hall⟩ := mem_ready.1 hj
        rw [hok] at hoj
        cases hoj
        exact unlisted hun (hei ▸ hall e he hb)
      · by_cases hki : k = i
        · subst hki
          obtain ⟨_, oj, hoj, hall⟩ := mem_ready.1 hr
          rw [hok] at hoj
          cases hoj
          exact unlisted hun (hei ▸ hall e he hb)
        · have hl := H.1.2.2 k ok hok hkj
          rw [getD_set_ne true (Ne.symm hki)] at hl
          exact unlisted hun (hei ▸ hcl k ok hok hl e he hb)
  | succ fuel ih =>
    intro listed a hcl hfree hr hy H
    refine ⟨fun h => (by rw [h] at hr; cases hr), fun j hj => ?_⟩
    by_cases hji : j = i
    · subst hji; exact hy.qOp hi H
    · have h1 := H.2 j (ready_mono hj hji)
      obtain ⟨hjun, oj, hoj, hall⟩ := mem_ready.1 hj
      have hnot : ∀ e ∈ oj.after, Region.binds md e = true → e.on ≠ i := fun e he hb heq => unlisted (mem_ready.1 hr).1 (heq ▸ hall e he hb)
      have h2 := qOp_put hoj (hfree j oj hoj hji hjun hnot) (fun cs b => hsel i oi cs b hi) (fun cs b => hsel j oj cs b hoj) hy h1
      have hfree' : ∀ k ok, ops[k]? = some ok → k ≠ i → (listed.setIfInBounds j true).getD k true = false →
          (∀ e ∈ ok.after, Region.binds md e = true → e.on ≠ i) → oi.apart ops ok = true := fun k ok hk hki hun hno => by
        refine hfree k ok hk hki ?_ hno
        by_cases hjk : j = k
        · subst hjk; exact hjun
        · rw [getD_set_ne true hjk] at hun; exact hun
      refine qOp_mono (fun a' h3 => ih (listed.setIfInBounds j true) a' (hcl.set hj) hfree' (ready_mono hr (Ne.symm hji)) h3.1 ?_) h2
      rw [Array.setIfInBounds_comm _ _ hji]
      exact h3.2

/-- Somebody waits for each of the first n. -/
def awaitedB (md : Region.Mode) (ops : Array Oper) (n : Nat) : Bool :=
  (List.range n).all fun i => (List.range ops.size).any fun j => match ops[j]? with
    | some oj => oj.after.toList.any fun e => Region.binds md e && e.on == i
    | none => false
theorem awaitedB_spec {n : Nat} (h : awaitedB md ops n = true) (i : Nat) (hi : i < n) : ∃ (j : Nat) (oj : Oper), ops[j]? = some oj ∧ ∃ e ∈ oj.after, Region.binds md e = true ∧ e.on = i := by
  have h1 := List.all_eq_true.1 h i (List.mem_range.2 hi)
  obtain ⟨j, _, h2⟩ := List.any_eq_true.1 h1
  split at h2
  · rename_i oj hoj
    obtain ⟨e, he, h3⟩ := List.any_eq_true.1 h2
    simp only [Bool.and_eq_true, beq_iff_eq] at h3
    exact ⟨j, oj, hoj, e, by simpa using he, h3.1, h3.2⟩
  · cases h2

theorem wpAnyL_lex {n : Nat} {U : Act → Prop} (hs : Region.noSelect ops = true) (hn : ops.size = n + 1) (hd : awaitedB md ops n = true) : ∀ (l : List Oper) (k : Nat) (listed : Array Bool) (a : Act), k + l.length = n → (∀ j, j < l.length → l[j]? = ops[k + j]?) →
    ClosedL md ops listed → (∀ j, j < k → listed.getD j true = true) →
    Region.lexFrom md ops (l.length + 1) k listed = true → wpQuiet P ops C U l a → wpAnyL P md ops C (fun l a => AllBut md ops n l ∧ U a) l.length listed a
  | [], k, listed, _, hk, _, _, hlt, hB, h => by
    have hk' : k = n := hk
    subst hk'
    simp only [List.length_nil, Region.lexFrom, Bool.and_eq_true] at hB
    obtain ⟨⟨hr, _⟩, he⟩ := hB
    have he' : Region.ready md ops (listed.setIfInBounds k true) = [] := by simpa using he
    refine ⟨⟨by simpa using hr, fun j hj => ?_, fun j oj hoj hne => hlt j ?_⟩, h⟩
    · by_cases hjk : j = k
      · exact hjk
      · have := ready_mono hj hjk
        rw [he'] at this
        cases this
    · have := (Array.getElem?_eq_some_iff.1 hoj).1
      omega
  | o :: l, k, listed, a, hk, hl, hcl, hlt, hB, h => by
    have h0 : ops[k]? = some o := by simpa using (hl 0 (by simp)).symm
    have hB2 := hB
    unfold Region.lexFrom at hB2
    simp only [Bool.and_eq_true] at hB2
    obtain ⟨⟨hr, hf⟩, hB'⟩ := hB2
    have hr' : k ∈ Region.ready md ops listed := by simpa using hr
    have hst : qOp P ops C k (wpQuiet P ops C U l) a := by unfold qOp; simp only [h0]; exact h
    obtain ⟨v, hy, hK⟩ := yieldsIn_of_qOp h0 hst
    simp only [List.length_cons] at hk
    refine wpAnyL_first h0 (by omega) (Region.noSelect_spec hs) (awaitedB_spec hd k (by omega)) l.length listed a hcl (Region.free_spec h0 hf) hr' hy
      (wpAnyL_lex hs hn hd l (k + 1) _ _ (by omega) (fun j hj => ?_) (hcl.set hr') (fun j hj => ?_) hB' hK)
    · have := hl (j + 1) (by simp; omega)
      simpa [Nat.add_assoc, Nat.add_comm 1 j] using this
    · by_cases hjk : k = j
      · subst hjk
        by_cases hsz : k < listed.size
        · simp [hsz]
        · simp [Nat.le_of_not_lt hsz]
      · rw [getD_set_ne true hjk]
        exact hlt j (by omega)

/-- All but the last operation only read; the last one's walk is asked in every world of the class. -/
theorem wp_region_quiet_last {id : Nat} {Q : Exit → Act → World → Prop} {a : Act} {w : World} {l : List Oper} (n : Nat) (o : Oper) (ho : l[n]? = some o) (hn : l.length = n + 1) (hm : P.follows .mixedOrders = true) (hB : Region.lexB .any l.toArray = true) (hd : awaitedB .any l.toArray n = true)
    (h : wpQuiet P l.toArray (fun w' => ∃ m, w' = w.drewN m) (fun a' => ∀ m, ∀ K : Act → World → Prop, (∀ a w, Q .normal a w → K a w) → if Region.wanted o (yielded l.toArray a'.tmps) = true then o.wp P a' (w.drewN m) K Q else K (a'.put o.dst undef) (w.drewN m)) (l.take n) a) : (Code.region id l.toArray true).wp P Q a w := by
  simp only [Region.lexB, Bool.and_eq_true] at hB
  refine wp_region_any hm ?_
  have hsz : l.toArray.size = n + 1 := by simpa using hn
  have hlt : (l.take n).length = n := by simp; omega
  have H := wpAnyL_lex (C := fun w' => ∃ m, w' = w.drewN m) (md := .any) hB.1 hsz hd (l.take n) 0 (Array.replicate l.toArray.size false) a (by omega) (fun j hj => by rw [hlt] at hj; simp [List.getElem?_take_of_lt hj]) (fun j oj hoj hl => by
      have hj := (Array.getElem?_eq_some_iff.1 hoj).1
      have : (Array.replicate l.toArray.size false).getD j true = false := by
        rw [Array.getD_eq_getD_getElem?, Array.getElem?_eq_getElem (by simpa using hj)]
        simp
      rw [this] at hl
      cases hl) (fun j hj => absurd hj (Nat.not_lt_zero j)) (by rw [hlt]; rw [hsz] at hB; simpa [hsz] using hB.2) h
  have H2 := wpAny_of_L (Q := Q) (m := 1) (fun listed a' w' hC hT => ?_) (l.take n).length _ a _ ⟨1, rfl⟩ H
  · rw [hlt] at H2
    rw [hsz]
    rw [hsz] at H2
    exact H2
  · obtain ⟨⟨hr, hone, hall⟩, hU⟩ := hT
    obtain ⟨m, rfl⟩ := hC
    refine ⟨fun h0 => (by rw [h0] at hr; cases hr), fun i hi => ?_⟩
    have hin := hone i hi
    subst hin
    have hoo : l.toArray[i]? = some o := by simpa using ho
    unfold wpOp
    simp only [hoo]
    have hnil : Region.ready Region.Mode.any l.toArray (listed.setIfInBounds i true) = [] := by
      refine List.eq_nil_iff_forall_not_mem.2 fun j hj => ?_
      obtain ⟨hjun, oj, hoj, _⟩ := mem_ready.1 hj
      by_cases hji : i = j
      · subst hji
        by_cases hs : i < listed.size
        · simp [hs] at hjun
        · simp [Nat.le_of_not_lt hs] at hjun
      · rw [getD_set_ne true hji, hall j oj hoj (Ne.symm hji)] at hjun
        cases hjun
    have hL := hU m (wpAny P .any l.toArray Q 0 (listed.setIfInBounds i true)) (fun a w hq => ⟨hnil, hq⟩)
    split
    · rename_i hw
      rw [if_pos hw] at hL
      exact .inl hL
    · rename_i hw
      rw [if_neg hw] at hL
      exact hL
end

end Go.Proofs.Ytcjcekaahooamaa
