/-
  Lines of commands: lists of lists of words, opened.
-/
import Derived.Test.YtjlhdnaebdkalaaRows
import Derived.Test.YtjlhdnaebdkalaaXListsW
import Derived.Deep.Slices
import Derived.ChangeArms
import Derived.WideShapes
import Derived.Carry
import Derived.OpenShut
namespace Go.Proofs.Ytjlhdnaebdkalaa
open Go.RowKit Go.ChangeShapes Go.WideShapes
set_option linter.unusedVariables false

theorem cell_blockO {w : World} {a : Addr} {v : Value} (h : w.cell? a = some v) : a.block < w.heap.size := by
  rcases Nat.lt_or_ge a.block w.heap.size with h1 | h1
  · exact h1
  · simp [World.cell?, Array.getElem?_eq_none h1] at h
theorem laidOut : laidOutB Try.prog = true := by kernel_rfl
theorem cellsOne : Try.prog.cellsOf 9 = 1 := by kernel_rfl
theorem cellsRow : Try.prog.cellsOf 24 = 1 := by kernel_rfl
theorem underRow : Try.prog.underlying 24 = some (.slice 9) := by kernel_rfl
theorem underRows : Try.prog.underlying 25 = some (.slice 24) := by kernel_rfl
theorem add_plainO (b o j : Nat) : (⟨b, o, none⟩ : Addr).add j = ⟨b, o + j, none⟩ := by unfold Addr.add; split <;> simp_all
/-- How much a list of words weighs; a list of such. -/
def wordsB (c : List (List UInt8)) : Nat := (c.map fun x => x.length + 1).sum
def listsB (cs : List (List (List UInt8))) : Nat := (cs.map fun c => wordsB c + 1).sum
theorem bulk_map {H : Type} (D : Nat → DataW H) (f : Nat → Nat) : ∀ L : List Nat, (∀ i ∈ L, f i ≤ Rows.uptoBulk (D i)) → (L.map f).sum ≤ Rows.uptoBulkAll (L.map D)
  | [], _ => Nat.zero_le _
  | i :: L, h => by
    have h1 := h i List.mem_cons_self
    have h2 := bulk_map D f L fun j hj => h j (List.mem_cons_of_mem _ hj)
    simp only [List.map_cons, List.sum_cons, Rows.uptoBulkAll]
    omega
theorem range_get {α : Type} {n i : Nat} {f : Nat → α} {x : α} (h : ((List.range n).map f)[i]? = some x) : i < n ∧ f i = x := by
  have hi := (List.getElem?_eq_some_iff.1 h).1
  rw [List.length_map, List.length_range] at hi
  refine ⟨hi, ?_⟩
  simpa [hi] using h

theorem open_words {H : Type} {enc : TypeId × Value → H} {W : World} {base : Nat} {spare : Nat → Bool} {held : Bool} {fuel : Nat} {V : Value} {D : DataW H} {Pl : List MemPlace} (h : DataW.trod enc Try.prog W base spare held fuel 24 [V] = some (D, Pl)) :
    ∃ c : List (List UInt8), StrSeeG W V c ∧ wordsB c + 1 ≤ Rows.uptoBulk D ∧ ∀ x ∈ Pl, x.block < W.heap.size := by
  rcases Deep.open_slice1 underRow cellsOne h with ⟨h0, hx⟩ | ⟨a, len, cap, m, n, V', D', Pl', h0, hb, hl, hm, hmm, hx, hall⟩
  · have hV : V = .slice none 0 0 := (List.cons.inj h0).1
    subst hV
    simp only [Prod.mk.injEq] at hx
    obtain ⟨rfl, rfl⟩ := hx
    exact ⟨[], ⟨_, _, rfl, fun hne => absurd rfl hne⟩, Nat.le_refl _, fun x hx => absurd hx List.not_mem_nil⟩
  · have hV : V = .slice (some a) len cap := (List.cons.inj h0).1
    subst hV
    simp only [Prod.mk.injEq] at hx
    obtain ⟨rfl, rfl⟩ := hx
    have hlm : len ≤ m := by rw [hmm]; split <;> omega
    have each : ∀ i, i < m → ∃ o : ByteArray, Pl' i = [] ∧ W.cell? (a.add i) = some (.string o) ∧ o.data.toList.length + 1 ≤ Rows.uptoBulk (D' i) := fun i hi => by
      obtain ⟨h1, h2⟩ := hall i hi
      obtain ⟨z, e1, e2, w1⟩ := DataW.trod_string Try.underlying9 h2
      simp only [Prod.mk.injEq] at e2
      refine ⟨z, e2.2, ?_, ?_⟩
      · rw [h1, (List.cons.inj e1).1]
      · rw [e2.1]
        simp [Rows.uptoBulk]
    haveI : Inhabited ByteArray := ⟨⟨#[]⟩⟩
    obtain ⟨E, hE⟩ := Deep.choose_lt each
    refine ⟨(List.range len).map fun i => (E i).data.toList, ⟨some a, cap, by rw [List.length_map, List.length_range], fun hne => ?_⟩, ?_, ?_⟩
    · have hl0 : 0 < len := by
        rcases Nat.eq_zero_or_pos len with h | h
        · subst h; exact absurd rfl hne
        · exact h
      obtain ⟨b, off, spot⟩ := a
      have g0 := (hE 0 (by omega)).2.1
      have hspot : spot = none := by
        have := World.cell?_spot g0
        simpa [Addr.add] using this
      subst hspot
      refine ⟨b, off, rfl, ?_, fun i x hx => ?_⟩
      · have := cell_blockO g0
        simpa [Addr.add] using this
      · obtain ⟨hi, e⟩ := range_get hx
        have h2 := (hE i (by omega)).2.1
        rw [add_plainO] at h2
        rw [h2, ← e]
        rfl
    · have h1 := bulk_map D' (fun i => (E i).data.toList.length + 1) (List.range len) fun i hi => (hE i (by have := List.mem_range.1 hi; omega)).2.2
      unfold wordsB
      rw [List.map_map]
      simp only [Rows.uptoBulk]
      have e : ((fun x : List UInt8 => x.length + 1) ∘ fun i => (E i).data.toList) = fun i => (E i).data.toList.length + 1 := rfl
      rw [e]
      omega
    · intro x hx
      rcases List.mem_append.1 hx with hx | hx
      · obtain ⟨i, hi, rfl⟩ := MemPlace.mem_row.1 hx
        have h0 := cell_blockO (hE 0 (by omega)).2.1
        show a.block < W.heap.size
        simpa [Addr.add] using h0
      · obtain ⟨i, hi, hx⟩ := List.mem_flatMap.1 hx
        rw [(hE i (List.mem_range.1 hi)).1] at hx
        cases hx

theorem open_lists {H : Type} {enc : TypeId × Value → H} {W : World} {r : Reach} {b0 base : Nat} {spare : Nat → Bool} {held : Bool} {v : Value} {d : DataW H} {p : List MemPlace} (hv : Value.okWide Try.prog W r b0 25 v) (h : DataW.Trod enc Try.prog W base spare held 25 v d p) :
    ∃ cs : List (List (List UInt8)), ListsArg W v cs ∧ listsB cs + 1 ≤ Rows.uptoBulk d ∧ ∀ x ∈ p, x.block < W.heap.size := by
  obtain ⟨ad, len, cap, rfl⟩ := okWide_slice underRows hv
  obtain ⟨fuel, hf⟩ := h
  rcases Deep.open_slice1 underRows cellsRow hf with ⟨h0, hx⟩ | ⟨a, len', cap', m, n, V', D', Pl', h0, hb, hl, hm, hmm, hx, hall⟩
  · simp [Value.cells] at h0
    obtain ⟨rfl, rfl, rfl⟩ := h0
    simp only [Prod.mk.injEq] at hx
    obtain ⟨rfl, rfl⟩ := hx
    exact ⟨[], ⟨_, _, rfl, fun hne => absurd rfl hne⟩, Nat.le_refl _, fun x hx => absurd hx List.not_mem_nil⟩
  · simp [Value.cells] at h0
    obtain ⟨rfl, rfl, rfl⟩ := h0
    simp only [Prod.mk.injEq] at hx
    obtain ⟨rfl, rfl⟩ := hx
    have hlm : len ≤ m := by rw [hmm]; split <;> omega
    have each : ∀ i, i < m → ∃ c : List (List UInt8), W.cell? (a.add i) = some (V' i) ∧ StrSeeG W (V' i) c ∧ wordsB c + 1 ≤ Rows.uptoBulk (D' i) ∧ ∀ x ∈ Pl' i, x.block < W.heap.size := fun i hi => by
      obtain ⟨h1, h2⟩ := hall i hi
      obtain ⟨c, e1, e2, e3⟩ := open_words h2
      exact ⟨c, h1, e1, e2, e3⟩
    obtain ⟨E, hE⟩ := Deep.choose_lt each
    refine ⟨(List.range len).map E, ⟨some a, cap, by rw [List.length_map, List.length_range], fun hne => ?_⟩, ?_, ?_⟩
    · have hl0 : 0 < len := by
        rcases Nat.eq_zero_or_pos len with h | h
        · subst h; exact absurd rfl hne
        · exact h
      obtain ⟨b, off, spot⟩ := a
      have g0 := (hE 0 (by omega)).1
      have hspot : spot = none := by
        have := World.cell?_spot g0
        simpa [Addr.add] using this
      subst hspot
      refine ⟨b, off, rfl, ?_, fun i c hc => ?_⟩
      · have := cell_blockO g0
        simpa [Addr.add] using this
      · obtain ⟨hi, e⟩ := range_get hc
        obtain ⟨h2, h3, _, _⟩ := hE i (by omega)
        rw [add_plainO] at h2
        exact ⟨_, h2, e ▸ h3⟩
    · have h1 := bulk_map D' (fun i => wordsB (E i) + 1) (List.range len) fun i hi => (hE i (by have := List.mem_range.1 hi; omega)).2.2.1
      unfold listsB
      rw [List.map_map]
      simp only [Rows.uptoBulk]
      have e : ((fun c => wordsB c + 1) ∘ E) = fun i => wordsB (E i) + 1 := rfl
      rw [e]
      omega
    · intro x hx
      rcases List.mem_append.1 hx with hx | hx
      · obtain ⟨i, hi, rfl⟩ := MemPlace.mem_row.1 hx
        have h0 := cell_blockO (hE 0 (by omega)).1
        show a.block < W.heap.size
        simpa [Addr.add] using h0
      · obtain ⟨i, hi, hx⟩ := List.mem_flatMap.1 hx
        exact (hE i (List.mem_range.1 hi)).2.2.2 x hx

theorem quote_len (x : List UInt8) : (quoteF x).length ≤ 4 * x.length + 2 := by
  have h := (quotes_length x).2
  unfold quoteF
  split
  · omega
  · rw [List.length_append, List.length_append]; simp only [List.length_singleton]; omega
theorem tailW_len : ∀ (c : List (List UInt8)), (tailW c).length ≤ 4 * wordsB c
  | [] => by simp [tailW]
  | x :: c => by
    have h1 := quote_len x
    have h2 := tailW_len c
    unfold wordsB at h2 ⊢
    simp only [tailW, List.length_cons, List.length_append, List.map_cons, List.sum_cons]
    omega
theorem cmdL_len (c : List (List UInt8)) : (cmdL c).length ≤ 4 * wordsB c := by
  cases c with
  | nil => simp [cmdL]
  | cons x c =>
    have h1 := quote_len x
    have h2 := tailW_len c
    unfold wordsB at h2 ⊢
    simp only [cmdL, List.length_append, List.map_cons, List.sum_cons]
    omega
theorem tailC_len : ∀ (cs : List (List (List UInt8))), (tailC cs).length ≤ 4 * listsB cs
  | [] => by simp [tailC]
  | c :: cs => by
    have h1 := cmdL_len c
    have h2 := tailC_len cs
    unfold listsB at h2 ⊢
    simp only [tailC, List.length_cons, List.length_append, List.map_cons, List.sum_cons]
    omega
theorem lines_len (cs : List (List (List UInt8))) : (linesF cs).length ≤ 4 * listsB cs := by
  cases cs with
  | nil => simp [linesF]
  | cons c cs =>
    have h1 := cmdL_len c
    have h2 := tailC_len cs
    unfold listsB at h2 ⊢
    simp only [linesF, List.length_append, List.map_cons, List.sum_cons]
    omega
theorem kept_len (cs : List (List (List UInt8))) : listsB (keptF cs) ≤ listsB cs := by
  induction cs with
  | nil => exact Nat.le_refl _
  | cons c cs ih =>
    unfold keptF listsB at ih ⊢
    rw [List.filter_cons]
    split
    · simp only [List.map_cons, List.sum_cons]; omega
    · simp only [List.map_cons, List.sum_cons]; omega
theorem mem_lists : ∀ (cs : List (List (List UInt8))) (c : List (List UInt8)), c ∈ cs → wordsB c + 1 ≤ listsB cs
  | d :: cs, c, h => by
    unfold listsB
    simp only [List.map_cons, List.sum_cons]
    rcases List.mem_cons.1 h with rfl | h
    · omega
    · have := mem_lists cs c h
      unfold listsB at this
      omega
theorem mem_words : ∀ (c : List (List UInt8)) (x : List UInt8), x ∈ c → x.length + 1 ≤ wordsB c
  | y :: c, x, h => by
    unfold wordsB
    simp only [List.map_cons, List.sum_cons]
    rcases List.mem_cons.1 h with rfl | h
    · omega
    · have := mem_words c x h
      unfold wordsB at this
      omega
theorem len_words : ∀ (c : List (List UInt8)), c.length ≤ wordsB c
  | [] => Nat.zero_le _
  | y :: c => by
    have := len_words c
    unfold wordsB at this ⊢
    simp only [List.map_cons, List.sum_cons, List.length_cons]
    omega
theorem len_lists : ∀ (cs : List (List (List UInt8))), cs.length ≤ listsB cs
  | [] => Nat.zero_le _
  | y :: c => by
    have := len_lists c
    unfold listsB at this ⊢
    simp only [List.map_cons, List.sum_cons, List.length_cons]
    omega
theorem lists_bounds {cs : List (List (List UInt8))} (h : listsB cs + 1 ≤ 1048576) : SmallC cs ∧ (∀ c ∈ cs, ∀ x ∈ c, x.length ≤ 1000000000) ∧ (linesF (keptF cs)).length ≤ 1000000000000 := by
  refine ⟨⟨?_, fun c hc => ?_⟩, fun c hc x hx => ?_, ?_⟩
  · have := len_lists cs
    omega
  · have h1 := mem_lists cs c hc
    have h2 := len_words c
    omega
  · have h1 := mem_lists cs c hc
    have h2 := mem_words c x hx
    omega
  · have h1 := lines_len (keptF cs)
    have h2 := kept_len cs
    omega
theorem lists_walk2 {v : Value} {cs : List (List (List UInt8))} {w : World} (h : ListsArg w v cs) (hb : listsB cs + 1 ≤ 1048576) : Calls Try.prog 7 #[v] w fun x w' => x = .returned (.bool true) ∧ Below w.heap.size w w' := by
  obtain ⟨h1, h2, h3⟩ := lists_bounds hb
  exact lists_walk v cs w h h1 h2 h3

end Go.Proofs.Ytjlhdnaebdkalaa
