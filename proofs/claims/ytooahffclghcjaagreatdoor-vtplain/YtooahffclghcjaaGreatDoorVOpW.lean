/-
  What lines that come in are.
-/
import Derived.Test.YtooahffclghcjaaGreatDoorVOpn
import Derived.Test.YtooahffclghcjaaGreatDoorMG
import Derived.ChangeArms
import Derived.Carry
namespace Go.Proofs.YtooahffclghcjaaGreatDoor
open Go.RowKit Go.ChangeShapes Go.WideShapes
set_option linter.unusedVariables false
set_option maxRecDepth 100000

theorem cell_blockO {w : World} {a : Addr} {v : Value} (h : w.cell? a = some v) : a.block < w.heap.size := by
  rcases Nat.lt_or_ge a.block w.heap.size with h1 | h1
  · exact h1
  · simp [World.cell?, Array.getElem?_eq_none h1] at h
theorem cellsOne : Tryz.prog.cellsOf 9 = 1 := by kernel_rfl
theorem underStrsO : Tryz.prog.underlying 24 = some (.slice 9) := by kernel_rfl
theorem add_plainO (b o j : Nat) : (⟨b, o, none⟩ : Addr).add j = ⟨b, o + j, none⟩ := by unfold Addr.add; split <;> simp_all
def StrSeeG (w : World) (v : Value) (c : List (List UInt8)) : Prop := ∃ a cap, v = .slice a c.length cap ∧ (c ≠ [] → ∃ g o, a = some ⟨g, o, none⟩ ∧ g < w.heap.size ∧ ∀ i x, c[i]? = some x → w.cell? ⟨g, o + i, none⟩ = some (.string (str x)))
theorem bulk_map {H : Type} (D : Nat → DataW H) (f : Nat → Nat) : ∀ L : List Nat, (∀ i ∈ L, f i ≤ Rows.uptoBulk (D i)) → (L.map f).sum ≤ Rows.uptoBulkAll (L.map D)
  | [], _ => Nat.zero_le _
  | i :: L, h => by
    have h1 := h i List.mem_cons_self
    have h2 := bulk_map D f L fun j hj => h j (List.mem_cons_of_mem _ hj)
    simp only [List.map_cons, List.sum_cons, Rows.uptoBulkAll]
    omega
theorem range_get {α : Type} {n i : Nat} {f : Nat → α} {x : α} (h : ((List.range n).map f)[i]? = some x) : i < n ∧ f i = x := by
  have hi := (List.getElem?_eq_some_iff.1 h).1
  rw [List.length_map, List.length_range] at hi
  refine ⟨hi, ?_⟩
  simpa [hi] using h

theorem open_words {H : Type} {enc : TypeId × Value → H} {W : World} {base : Nat} {spare : Nat → Bool} {held : Bool} {fuel : Nat} {V : Value} {D : DataW H} {Pl : List MemPlace} (h : DataW.trod enc Tryz.prog W base spare held fuel 24 [V] = some (D, Pl)) :
    ∃ c : List (List UInt8), StrSeeG W V c ∧ wordsB c + 1 ≤ Rows.uptoBulk D ∧ ∀ x ∈ Pl, x.block < W.heap.size := by
  rcases Deep.open_slice1 underStrsO cellsOne h with ⟨h0, hx⟩ | ⟨a, len, cap, m, n, V', D', Pl', h0, hb, hl, hm, hmm, hx, hall⟩
  · have hV : V = .slice none 0 0 := (List.cons.inj h0).1
    subst hV
    simp only [Prod.mk.injEq] at hx
    obtain ⟨rfl, rfl⟩ := hx
    exact ⟨[], ⟨_, _, rfl, fun hne => absurd rfl hne⟩, Nat.le_refl _, fun x hx => absurd hx List.not_mem_nil⟩
  · have hV : V = .slice (some a) len cap := (List.cons.inj h0).1
    subst hV
    simp only [Prod.mk.injEq] at hx
    obtain ⟨rfl, rfl⟩ := hx
    have hlm : len ≤ m := by rw [hmm]; split <;> omega
    have each : ∀ i, i < m → ∃ o : ByteArray, Pl' i = [] ∧ W.cell? (a.add i) = some (.string o) ∧ o.data.toList.length + 1 ≤ Rows.uptoBulk (D' i) := fun i hi => by
      obtain ⟨h1, h2⟩ := hall i hi
      obtain ⟨z, e1, e2, w1⟩ := DataW.trod_string Tryz.underlying9 h2
      simp only [Prod.mk.injEq] at e2
      refine ⟨z, e2.2, ?_, ?_⟩
      · rw [h1, (List.cons.inj e1).1]
      · rw [e2.1]
        simp [Rows.uptoBulk]
    haveI : Inhabited ByteArray := ⟨⟨#[]⟩⟩
    obtain ⟨E, hE⟩ := Deep.choose_lt each
    refine ⟨(List.range len).map fun i => (E i).data.toList, ⟨some a, cap, by rw [List.length_map, List.length_range], fun hne => ?_⟩, ?_, ?_⟩
    · have hl0 : 0 < len := by
        rcases Nat.eq_zero_or_pos len with h | h
        · subst h; exact absurd rfl hne
        · exact h
      obtain ⟨b, off, spot⟩ := a
      have g0 := (hE 0 (by omega)).2.1
      have hspot : spot = none := by
        have := World.cell?_spot g0
        simpa [Addr.add] using this
      subst hspot
      refine ⟨b, off, rfl, ?_, fun i x hx => ?_⟩
      · have := cell_blockO g0
        simpa [Addr.add] using this
      · obtain ⟨hi, e⟩ := range_get hx
        have h2 := (hE i (by omega)).2.1
        rw [add_plainO] at h2
        rw [h2, ← e]
        rfl
    · have h1 := bulk_map D' (fun i => (E i).data.toList.length + 1) (List.range len) fun i hi => (hE i (by have := List.mem_range.1 hi; omega)).2.2
      unfold wordsB
      rw [List.map_map]
      simp only [Rows.uptoBulk]
      have e : ((fun x : List UInt8 => x.length + 1) ∘ fun i => (E i).data.toList) = fun i => (E i).data.toList.length + 1 := rfl
      rw [e]
      omega
    · intro x hx
      rcases List.mem_append.1 hx with hx | hx
      · obtain ⟨i, hi, rfl⟩ := MemPlace.mem_row.1 hx
        have h0 := cell_blockO (hE 0 (by omega)).2.1
        show a.block < W.heap.size
        simpa [Addr.add] using h0
      · obtain ⟨i, hi, hx⟩ := List.mem_flatMap.1 hx
        rw [(hE i (List.mem_range.1 hi)).1] at hx
        cases hx

theorem open_lines {H : Type} {enc : TypeId × Value → H} {W : World} {r : Reach} {b0 base : Nat} {spare : Nat → Bool} {held : Bool} {v : Value} {d : DataW H} {p : List MemPlace} (hv : Value.okWide Tryz.prog W r b0 24 v) (h : DataW.Trod enc Tryz.prog W base spare held 24 v d p) :
    ∃ ls : List (List UInt8), StrSeeG W v ls ∧ wordsB ls + 1 ≤ Rows.uptoBulk d ∧ ∀ x ∈ p, x.block < W.heap.size := by
  obtain ⟨ad, len, cap, rfl⟩ := okWide_slice underStrsO hv
  obtain ⟨fuel, hf⟩ := h
  exact open_words hf
end Go.Proofs.YtooahffclghcjaaGreatDoor
