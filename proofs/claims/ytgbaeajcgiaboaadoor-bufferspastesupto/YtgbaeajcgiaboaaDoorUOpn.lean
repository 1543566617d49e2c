/-
  Buffers: what a list of steps that comes in is; the table of the tens.
-/
import Derived.Test.YtgbaeajcgiaboaaDoorUPlay
import Derived.Test.YtgbaeajcgiaboaaDoorRows
import Derived.Deep.Slices
import Derived.ChangeArms
import Derived.Carry
import Derived.OpenShut
import Derived.SizedLaws
import Derived.LaidLaws
import Derived.Stop.LaidErr
import Derived.Lib.LaidTab
namespace Go.Proofs.YtgbaeajcgiaboaaDoor
open Go.RowKit Go.ChangeShapes Go.WideShapes
set_option linter.unusedVariables false
set_option maxRecDepth 100000

theorem cell_blockB {w : World} {a : Addr} {v : Value} (h : w.cell? a = some v) : a.block < w.heap.size := by
  rcases Nat.lt_or_ge a.block w.heap.size with h1 | h1
  · exact h1
  · simp [World.cell?, Array.getElem?_eq_none h1] at h
theorem cellsB9 : Tryd.prog.cellsOf 9 = 1 := by kernel_rfl
theorem cellsB3 : Tryd.prog.cellsOf 3 = 1 := by kernel_rfl
theorem cellsBO : Tryd.prog.cellsOf 47 = 4 := by kernel_rfl
theorem underBO : Tryd.prog.underlying 22 = some (.slice 47) := by kernel_rfl
theorem fieldsBO : Tryd.prog.underlying 47 = some (.struct #[⟨"Kind", 3, 0, false, "", "", 0⟩, ⟨"N", 3, 1, false, "", "", 8⟩, ⟨"Name", 9, 2, false, "", "", 16⟩, ⟨"Text", 9, 3, false, "", "", 32⟩]) := by kernel_rfl
theorem addPB (b o j : Nat) : (⟨b, o, none⟩ : Addr).add j = ⟨b, o + j, none⟩ := by unfold Addr.add; split <;> simp_all
/-- All weights are borne. -/
def Light {H : Type} (t : TypeId) (d : DataW H) : Prop := ∀ n ∈ d.weights Tryd.prog t, n ≤ reachBytes
theorem light_of {H : Type} {ts : List TypeId} {ds : List (DataW H)} (h : (DataW.weightsEach Tryd.prog ts ds).all (· ≤ reachBytes) = true) {j : Nat} {t : TypeId} {d : DataW H} (ht : ts[j]? = some t) (hd : ds[j]? = some d) : Light t d := fun n hn => by simpa using List.all_eq_true.1 h _ (DataW.weights_mem_each ht hd n hn)
theorem weightsAll_mem {H : Type} {e : TypeId} : ∀ {l : List (DataW H)} {d : DataW H} {n : Nat}, d ∈ l → n ∈ d.weights Tryd.prog e → n ∈ DataW.weightsAll Tryd.prog e l
  | d0 :: l, d, n, hd, hn => by
    simp only [DataW.weightsAll, List.mem_append]
    rcases List.mem_cons.1 hd with rfl | hd
    · exact .inl hn
    · exact .inr (weightsAll_mem hd hn)
theorem open_opB {H : Type} {enc : TypeId × Value → H} {W : World} {base : Nat} {spare : Nat → Bool} {held : Bool} {fuel : Nat} {cs : List Value} {x : DataW H × List MemPlace} (h : DataW.trod enc Tryd.prog W base spare held fuel 47 cs = some x) :
    ∃ s : Ps, cs = encP s ∧ (Light 47 x.1 → s.wf) ∧ x.2 = [] := by
  obtain ⟨xs, n, _, hx, hl, hlen, hfs⟩ := DataW.trod_struct fieldsBO h
  rw [cellsBO] at hl
  match cs, hl, xs, hlen with
  | [c0, c1, c2, c3], _, [y0, y1, y2, y3], _ =>
    have t0 : DataW.trod enc Tryd.prog W base spare held n 3 [c0] = some y0 := by have h := hfs 0 _ rfl; simpa [cellsB3, cellsB9] using h
    have t1 : DataW.trod enc Tryd.prog W base spare held n 3 [c1] = some y1 := by have h := hfs 1 _ rfl; simpa [cellsB3, cellsB9] using h
    have t2 : DataW.trod enc Tryd.prog W base spare held n 9 [c2] = some y2 := by have h := hfs 2 _ rfl; simpa [cellsB3, cellsB9] using h
    have t3 : DataW.trod enc Tryd.prog W base spare held n 9 [c3] = some y3 := by have h := hfs 3 _ rfl; simpa [cellsB3, cellsB9] using h
    obtain ⟨z0, e0, rfl, w0⟩ := DataW.trod_int Tryd.underlying3 t0
    obtain ⟨z1, e1, rfl, w1⟩ := DataW.trod_int Tryd.underlying3 t1
    obtain ⟨s2, e2, rfl, w2⟩ := DataW.trod_string Tryd.underlying9 t2
    obtain ⟨s3, e3, rfl, w3⟩ := DataW.trod_string Tryd.underlying9 t3
    obtain rfl := (List.cons.inj e0).1
    obtain rfl := (List.cons.inj e1).1
    obtain rfl := (List.cons.inj e2).1
    obtain rfl := (List.cons.inj e3).1
    refine ⟨⟨z0, z1, s2, s3⟩, rfl, fun hL => ?_, ?_⟩
    · have hb : ∀ s : ByteArray, s.data.toList.length ∈ x.1.weights Tryd.prog 47 → s.size ≤ 140737488355328 := fun s hs => by
        have := hL _ hs
        have e : s.data.toList.length = s.size := by rw [Array.length_toList]; rfl
        unfold reachBytes at this
        omega
      have m2 : s2.data.toList.length ∈ x.1.weights Tryd.prog 47 := by
        rw [hx]
        simp [DataW.weights, DataW.weightsEach]
      have m3 : s3.data.toList.length ∈ x.1.weights Tryd.prog 47 := by
        rw [hx]
        simp [DataW.weights, DataW.weightsEach]
      exact ⟨hb s2 m2, hb s3 m3⟩
    · rw [hx]
      simp
/-- A list of steps that comes in. -/
theorem open_opsB {H : Type} {enc : TypeId × Value → H} {W : World} {base : Nat} {spare : Nat → Bool} {held : Bool} {fuel : Nat} {V : Value} {D0 : DataW H} {P0 : List MemPlace} (h : DataW.trod enc Tryd.prog W base spare held fuel 22 [V] = some (D0, P0)) :
    ∃ l : List Ps, SeeP W V l ∧ (Light 22 D0 → ∀ s ∈ l, s.wf) ∧ ∀ x ∈ P0, x.block < W.heap.size := by
  rcases Deep.open_slice underBO h with ⟨h0, hx⟩ | ⟨a, len, cap, m, n, D, Pl, h0, hb, hl, hm, hmm, hx, hall⟩
  · have hV : V = .slice none 0 0 := (List.cons.inj h0).1
    subst hV
    simp only [Prod.mk.injEq] at hx
    obtain ⟨rfl, rfl⟩ := hx
    exact ⟨[], ⟨_, _, rfl, fun hne => absurd rfl hne⟩, fun _ o ho => absurd ho List.not_mem_nil, fun x hx => absurd hx List.not_mem_nil⟩
  · have hV : V = .slice (some a) len cap := (List.cons.inj h0).1
    subst hV
    simp only [Prod.mk.injEq] at hx
    obtain ⟨rfl, rfl⟩ := hx
    have hlm : len ≤ m := by rw [hmm]; split <;> omega
    rw [cellsBO] at hall ⊢
    have each : ∀ i, i < m → ∃ o : Ps, (Light 47 (D i) → o.wf) ∧ Pl i = [] ∧ ∀ j, j < 4 → W.cell? ((a.add (i * 4)).add j) = (encP o)[j]? := fun i hi => by
      obtain ⟨cs', h1, h2⟩ := hall i hi
      obtain ⟨_, _, hcell⟩ := World.cells?_some h1
      obtain ⟨ev, hev, hx, hr⟩ := open_opB h2
      exact ⟨ev, hx, hr, fun j hj => by rw [hcell j hj, hev]⟩
    have hplaces : ∀ x ∈ MemPlace.row a (m * 4) ++ (List.range m).flatMap Pl, x.block < W.heap.size := fun x hx => by
      rcases List.mem_append.1 hx with hx | hx
      · obtain ⟨i, hi, rfl⟩ := MemPlace.mem_row.1 hx
        obtain ⟨ev, _, _, hc⟩ := each 0 (by omega)
        have h0 := cell_blockB ((hc 0 (by decide)).trans rfl)
        rw [Deep.add_add] at h0
        show a.block < W.heap.size
        simpa [Addr.add] using h0
      · obtain ⟨i, hi, hx⟩ := List.mem_flatMap.1 hx
        obtain ⟨ev, _, hp, _⟩ := each i (List.mem_range.1 hi)
        rw [hp] at hx
        cases hx
    obtain ⟨E, hEv⟩ := Deep.choose_lt each
    refine ⟨(List.range len).map E, ⟨some a, cap, by rw [List.length_map, List.length_range], fun hne => ?_⟩, fun hL o ho => ?_, hplaces⟩
    · have hl0 : 0 < len := by
        rcases Nat.eq_zero_or_pos len with h | h
        · subst h; exact absurd rfl hne
        · exact h
      obtain ⟨b, off, spot⟩ := a
      have g0 := (hEv 0 (by omega)).2.2 0 (by decide)
      have hspot : spot = none := by
        have := World.cell?_spot (g0.trans rfl)
        simpa [Addr.add] using this
      subst hspot
      refine ⟨b, off, rfl, fun j hj c u hu => ?_⟩
      have hjl : j < len := by rw [List.length_map, List.length_range] at hj; exact hj
      have hc7 : c < 4 := by
        have := (List.getElem?_eq_some_iff.1 hu).1
        exact this
      have h2 := (hEv j (by omega)).2.2 c hc7
      rw [addPB, addPB] at h2
      rw [h2, ← hu]
      simp
    · obtain ⟨i, hi, rfl⟩ := List.mem_map.1 ho
      have hil := List.mem_range.1 hi
      refine (hEv i (by omega)).1 fun k hk => hL k ?_
      simp only [DataW.weights, underBO, List.mem_cons, List.mem_append]
      exact .inr (.inl (weightsAll_mem (List.mem_map.2 ⟨i, hi, rfl⟩) hk))
theorem open_steps {H : Type} {enc : TypeId × Value → H} {W : World} {r : Reach} {b0 base : Nat} {spare : Nat → Bool} {held : Bool} {v : Value} {d : DataW H} {p : List MemPlace} (hv : Value.okWide Tryd.prog W r b0 22 v) (h : DataW.Trod enc Tryd.prog W base spare held 22 v d p) :
    ∃ l : List Ps, SeeP W v l ∧ (Light 22 d → ∀ s ∈ l, s.wf) ∧ ∀ x ∈ p, x.block < W.heap.size := by
  obtain ⟨ad, len, cap, rfl⟩ := okWide_slice underBO hv
  obtain ⟨fuel, hf⟩ := h
  obtain ⟨d0, p0⟩ : DataW H × List MemPlace := ⟨d, p⟩
  exact open_opsB hf
theorem laidOutV : laidOutB Tryd.prog = true := by kernel_rfl
theorem gP : Tryd.prog.globalNamed "internal/strconv.uint64pow10" = some 3 := by kernel_rfl
theorem gPType : (Tryd.prog.globals[3]?).map (·.type) = some 129 := by kernel_rfl
theorem cellsP : Tryd.prog.cellsOf 129 = 20 := by kernel_rfl
theorem cellsU : Tryd.prog.cellsOf 123 = 1 := by kernel_rfl
theorem tens_laid {W : World} {a b : String × DataW Unit} {r : List (String × DataW Unit)} (h : laidMet Tryd.prog (a :: b :: ("internal/strconv.uint64pow10", Rows.laid_internal_strconv_uint64pow10) :: r) W) : Tens W :=
  Lib.tabIs_of_head (zs := Lib.pow10Tab) gP gPType Tryd.underlying129 Tryd.underlying123 cellsU cellsP (show laidMet Tryd.prog (("internal/strconv.uint64pow10", Lib.tabData .u64 Lib.pow10Tab) :: _) W from h.tail.tail)
end Go.Proofs.YtgbaeajcgiaboaaDoor
