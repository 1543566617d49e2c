/-
  What a key that comes in is.
  What a Case that comes in is.
  What a Case that comes in is.
-/
import Derived.Test.YtbonnjilbocldaaGreatDoorRows
import Derived.Test.YtbonnjilbocldaaGreatDoorProg
import Derived.Test.YtbonnjilbocldaaGreatDoorIL
import Derived.OpenShut
import Derived.WideShapes
import Derived.Deep.Slices
import Derived.ChangeArms
import Derived.Carry
import Derived.SizedLaws
namespace Go.Proofs.YtbonnjilbocldaaGreatDoor
open Go.RowKit Go.ChangeShapes Go.WideShapes
set_option linter.unusedVariables false
set_option maxRecDepth 100000

theorem laidOutV : laidOutB Tryz.prog = true := by kernel_rfl
theorem cellsKeyU : Tryz.prog.cellsOf 23 = 2 := by kernel_rfl
theorem cells3U : Tryz.prog.cellsOf 3 = 1 := by kernel_rfl
theorem fieldsKey : Tryz.prog.underlying 23 = some (.struct #[⟨"Code", 3, 0, false, "", "", 0⟩, ⟨"Mods", 3, 1, false, "", "", 8⟩]) := by kernel_rfl
theorem array2V {α : Type} {cs : Array α} (h : cs.size = 2) : ∃ a b, cs = #[a, b] := by
  obtain ⟨l⟩ := cs
  match l, h with
  | [a, b], _ => exact ⟨a, b, rfl⟩
theorem open_key {H : Type} {enc : TypeId × Value → H} {W : World} {r : Reach} {b0 base : Nat} {spare : Nat → Bool} {held : Bool} {v : Value} {d : DataW H} {p : List MemPlace} (hv : Value.okWide Tryz.prog W r b0 23 v) (h : DataW.Trod enc Tryz.prog W base spare held 23 v d p) :
    ∃ x y : Int, v = .agg #[.int .i64 x, .int .i64 y] ∧ p = [] := by
  obtain ⟨cs, rfl, hsz⟩ := okWide_struct fieldsKey hv
  obtain ⟨c0, c1, rfl⟩ := array2V (hsz.trans cellsKeyU)
  obtain ⟨fuel, hf⟩ := h
  obtain ⟨xs, n, _, hx, hl, hlen, hfs⟩ := DataW.trod_struct fieldsKey hf
  match xs, hlen with
  | [y0, y1], _ =>
    have t0 : DataW.trod enc Tryz.prog W base spare held n 3 [c0] = some y0 := by have h := hfs 0 _ rfl; simpa [Value.cells, cells3U] using h
    have t1 : DataW.trod enc Tryz.prog W base spare held n 3 [c1] = some y1 := by have h := hfs 1 _ rfl; simpa [Value.cells, cells3U] using h
    obtain ⟨z0, e0, rfl, w0⟩ := DataW.trod_int Tryz.underlying3 t0
    obtain ⟨z1, e1, rfl, w1⟩ := DataW.trod_int Tryz.underlying3 t1
    obtain rfl := (List.cons.inj e0).1
    obtain rfl := (List.cons.inj e1).1
    simp only [Prod.mk.injEq] at hx
    exact ⟨z0, z1, rfl, by simpa using hx.2⟩
end Go.Proofs.YtbonnjilbocldaaGreatDoor

namespace Go.Proofs.YtbonnjilbocldaaGreatDoor
open Go.RowKit Go.ChangeShapes Go.WideShapes
set_option linter.unusedVariables false
set_option maxRecDepth 100000

theorem cell_blockB {w : World} {a : Addr} {v : Value} (h : w.cell? a = some v) : a.block < w.heap.size := by
  rcases Nat.lt_or_ge a.block w.heap.size with h1 | h1
  · exact h1
  · simp [World.cell?, Array.getElem?_eq_none h1] at h
theorem cellsB9 : Tryz.prog.cellsOf 9 = 1 := by kernel_rfl
theorem cellsB3 : Tryz.prog.cellsOf 3 = 1 := by kernel_rfl
theorem cellsB4 : Tryz.prog.cellsOf 4 = 1 := by kernel_rfl
theorem cellsBB : Tryz.prog.cellsOf 39 = 5 := by kernel_rfl
theorem cellsBO : Tryz.prog.cellsOf 41 = 7 := by kernel_rfl
theorem cellsBL : Tryz.prog.cellsOf 24 = 1 := by kernel_rfl
theorem cellsBC : Tryz.prog.cellsOf 26 = 4 := by kernel_rfl
theorem underBO : Tryz.prog.underlying 24 = some (.slice 41) := by kernel_rfl
theorem fieldsBB : Tryz.prog.underlying 39 = some (.struct #[⟨"Table", 9, 0, false, "", "", 0⟩, ⟨"Key", 23, 1, false, "", "", 16⟩, ⟨"Repeat", 4, 3, false, "", "", 32⟩, ⟨"Line", 9, 4, false, "", "", 40⟩]) := by kernel_rfl
theorem fieldsBO : Tryz.prog.underlying 41 = some (.struct #[⟨"Kind", 3, 0, false, "", "", 0⟩, ⟨"Tick", 3, 1, false, "", "", 8⟩, ⟨"B", 39, 2, false, "", "", 16⟩]) := by kernel_rfl
theorem fieldsBC : Tryz.prog.underlying 26 = some (.struct #[⟨"Prefix", 23, 0, false, "", "", 0⟩, ⟨"Repeat", 3, 2, false, "", "", 16⟩, ⟨"Ops", 24, 3, false, "", "", 24⟩]) := by kernel_rfl
theorem addPB (b o j : Nat) : (⟨b, o, none⟩ : Addr).add j = ⟨b, o + j, none⟩ := by unfold Addr.add; split <;> simp_all
theorem range_getB {α : Type} {n i : Nat} {f : Nat → α} {x : α} (h : ((List.range n).map f)[i]? = some x) : i < n ∧ f i = x := by
  have hi := (List.getElem?_eq_some_iff.1 h).1
  rw [List.length_map, List.length_range] at hi
  refine ⟨hi, ?_⟩
  simpa [hi] using h
/-- All weights are borne. -/
def Light {H : Type} (t : TypeId) (d : DataW H) : Prop := ∀ n ∈ d.weights Tryz.prog t, n ≤ reachBytes
theorem light_of {H : Type} {ts : List TypeId} {ds : List (DataW H)} (h : (DataW.weightsEach Tryz.prog ts ds).all (· ≤ reachBytes) = true) {j : Nat} {t : TypeId} {d : DataW H} (ht : ts[j]? = some t) (hd : ds[j]? = some d) : Light t d := fun n hn => by simpa using List.all_eq_true.1 h _ (DataW.weights_mem_each ht hd n hn)
theorem weightsAll_mem {H : Type} {e : TypeId} : ∀ {l : List (DataW H)} {d : DataW H} {n : Nat}, d ∈ l → n ∈ d.weights Tryz.prog e → n ∈ DataW.weightsAll Tryz.prog e l
  | d0 :: l, d, n, hd, hn => by
    simp only [DataW.weightsAll, List.mem_append]
    rcases List.mem_cons.1 hd with rfl | hd
    · exact .inl hn
    · exact .inr (weightsAll_mem hd hn)
theorem open_keyB {H : Type} {enc : TypeId × Value → H} {W : World} {base : Nat} {spare : Nat → Bool} {held : Bool} {fuel : Nat} {c0 c1 : Value} {x : DataW H × List MemPlace} (h : DataW.trod enc Tryz.prog W base spare held fuel 23 [c0, c1] = some x) :
    ∃ a b : Int, c0 = .int .i64 a ∧ c1 = .int .i64 b ∧ x.2 = [] ∧ (Lit.int .i64 a).wf = true ∧ (Lit.int .i64 b).wf = true := by
  obtain ⟨xs, n, _, hx, hl, hlen, hfs⟩ := DataW.trod_struct fieldsKey h
  match xs, hlen with
  | [y0, y1], _ =>
    have t0 : DataW.trod enc Tryz.prog W base spare held n 3 [c0] = some y0 := by have h := hfs 0 _ rfl; simpa [Value.cells, cellsB3] using h
    have t1 : DataW.trod enc Tryz.prog W base spare held n 3 [c1] = some y1 := by have h := hfs 1 _ rfl; simpa [Value.cells, cellsB3] using h
    obtain ⟨z0, e0, rfl, w0⟩ := DataW.trod_int Tryz.underlying3 t0
    obtain ⟨z1, e1, rfl, w1⟩ := DataW.trod_int Tryz.underlying3 t1
    exact ⟨z0, z1, (List.cons.inj e0).1, (List.cons.inj e1).1, by rw [hx]; simp, w0, w1⟩
theorem open_opB {H : Type} {enc : TypeId × Value → H} {W : World} {base : Nat} {spare : Nat → Bool} {held : Bool} {fuel : Nat} {cs : List Value} {x : DataW H × List MemPlace} (h : DataW.trod enc Tryz.prog W base spare held fuel 41 cs = some x) :
    ∃ s : Stp, cs = encS s ∧ (Light 41 x.1 → s.wf) ∧ x.2 = [] := by
  obtain ⟨xs, n, _, hx, hl, hlen, hfs⟩ := DataW.trod_struct fieldsBO h
  rw [cellsBO] at hl
  match cs, hl, xs, hlen with
  | [c0, c1, c2, c3, c4, c5, c6], _, [y0, y1, y2], _ =>
    have t0 : DataW.trod enc Tryz.prog W base spare held n 3 [c0] = some y0 := by have h := hfs 0 _ rfl; simpa [cellsB3, cellsBB] using h
    have t1 : DataW.trod enc Tryz.prog W base spare held n 3 [c1] = some y1 := by have h := hfs 1 _ rfl; simpa [cellsB3, cellsBB] using h
    have t2 : DataW.trod enc Tryz.prog W base spare held n 39 [c2, c3, c4, c5, c6] = some y2 := by have h := hfs 2 _ rfl; simpa [cellsB3, cellsBB] using h
    obtain ⟨z0, e0, rfl, w0⟩ := DataW.trod_int Tryz.underlying3 t0
    obtain ⟨z1, e1, rfl, w1⟩ := DataW.trod_int Tryz.underlying3 t1
    obtain rfl := (List.cons.inj e0).1
    obtain rfl := (List.cons.inj e1).1
    obtain ⟨ys, n2, _, hx2, hl2, hlen2, hfs2⟩ := DataW.trod_struct fieldsBB t2
    match ys, hlen2 with
    | [u0, u1, u2, u3], _ =>
      have r0 : DataW.trod enc Tryz.prog W base spare held n2 9 [c2] = some u0 := by have h := hfs2 0 _ rfl; simpa [cellsB3, cellsB4, cellsB9, cellsKeyU] using h
      have r1 : DataW.trod enc Tryz.prog W base spare held n2 23 [c3, c4] = some u1 := by have h := hfs2 1 _ rfl; simpa [cellsB3, cellsB4, cellsB9, cellsKeyU] using h
      have r2 : DataW.trod enc Tryz.prog W base spare held n2 4 [c5] = some u2 := by have h := hfs2 2 _ rfl; simpa [cellsB3, cellsB4, cellsB9, cellsKeyU] using h
      have r3 : DataW.trod enc Tryz.prog W base spare held n2 9 [c6] = some u3 := by have h := hfs2 3 _ rfl; simpa [cellsB3, cellsB4, cellsB9, cellsKeyU] using h
      obtain ⟨s0, d0, rfl, v0⟩ := DataW.trod_string Tryz.underlying9 r0
      obtain ⟨a, b, rfl, rfl, hu1, wa, wb⟩ := open_keyB r1
      obtain ⟨q2, d2, rfl⟩ := DataW.trod_bool Tryz.underlying4 r2
      obtain ⟨s3, d3, rfl, v3⟩ := DataW.trod_string Tryz.underlying9 r3
      obtain rfl := (List.cons.inj d0).1
      obtain rfl := (List.cons.inj d2).1
      obtain rfl := (List.cons.inj d3).1
      refine ⟨⟨z0, z1, ⟨s0, a, b, q2, s3⟩⟩, rfl, fun hL => ?_, ?_⟩
      · have hb : ∀ s : ByteArray, s.data.toList.length ∈ x.1.weights Tryz.prog 41 → s.size ≤ 140737488355328 := fun s hs => by
          have := hL _ hs
          have e : s.data.toList.length = s.size := by rw [Array.length_toList]; rfl
          unfold reachBytes at this
          omega
        have m0 : s0.data.toList.length ∈ x.1.weights Tryz.prog 41 := by
          rw [hx, hx2]
          simp [DataW.weights, DataW.weightsEach]
        have m3 : s3.data.toList.length ∈ x.1.weights Tryz.prog 41 := by
          rw [hx, hx2]
          simp [DataW.weights, DataW.weightsEach]
        exact ⟨⟨hb s0 m0, wa, wb⟩, hb s3 m3, w0, w1⟩
      · rw [hx, hx2]
        simp [hu1]
end Go.Proofs.YtbonnjilbocldaaGreatDoor

namespace Go.Proofs.YtbonnjilbocldaaGreatDoor
open Go.RowKit Go.ChangeShapes Go.WideShapes
set_option linter.unusedVariables false
set_option maxRecDepth 100000

theorem open_opsB {H : Type} {enc : TypeId × Value → H} {W : World} {base : Nat} {spare : Nat → Bool} {held : Bool} {fuel : Nat} {V : Value} {D0 : DataW H} {P0 : List MemPlace} (h : DataW.trod enc Tryz.prog W base spare held fuel 24 [V] = some (D0, P0)) :
    ∃ l : List Stp, SeeS W V l ∧ (Light 24 D0 → ∀ s ∈ l, s.wf) ∧ ∀ x ∈ P0, x.block < W.heap.size := by
  rcases Deep.open_slice underBO h with ⟨h0, hx⟩ | ⟨a, len, cap, m, n, D, Pl, h0, hb, hl, hm, hmm, hx, hall⟩
  · have hV : V = .slice none 0 0 := (List.cons.inj h0).1
    subst hV
    simp only [Prod.mk.injEq] at hx
    obtain ⟨rfl, rfl⟩ := hx
    exact ⟨[], ⟨_, _, rfl, fun hne => absurd rfl hne⟩, fun _ o ho => absurd ho List.not_mem_nil, fun x hx => absurd hx List.not_mem_nil⟩
  · have hV : V = .slice (some a) len cap := (List.cons.inj h0).1
    subst hV
    simp only [Prod.mk.injEq] at hx
    obtain ⟨rfl, rfl⟩ := hx
    have hlm : len ≤ m := by rw [hmm]; split <;> omega
    rw [cellsBO] at hall ⊢
    have each : ∀ i, i < m → ∃ o : Stp, (Light 41 (D i) → o.wf) ∧ Pl i = [] ∧ ∀ j, j < 7 → W.cell? ((a.add (i * 7)).add j) = (encS o)[j]? := fun i hi => by
      obtain ⟨cs', h1, h2⟩ := hall i hi
      obtain ⟨_, _, hcell⟩ := World.cells?_some h1
      obtain ⟨ev, hev, hx, hr⟩ := open_opB h2
      exact ⟨ev, hx, hr, fun j hj => by rw [hcell j hj, hev]⟩
    have hplaces : ∀ x ∈ MemPlace.row a (m * 7) ++ (List.range m).flatMap Pl, x.block < W.heap.size := fun x hx => by
      rcases List.mem_append.1 hx with hx | hx
      · obtain ⟨i, hi, rfl⟩ := MemPlace.mem_row.1 hx
        obtain ⟨ev, _, _, hc⟩ := each 0 (by omega)
        have h0 := cell_blockB ((hc 0 (by decide)).trans rfl)
        rw [Deep.add_add] at h0
        show a.block < W.heap.size
        simpa [Addr.add] using h0
      · obtain ⟨i, hi, hx⟩ := List.mem_flatMap.1 hx
        obtain ⟨ev, _, hp, _⟩ := each i (List.mem_range.1 hi)
        rw [hp] at hx
        cases hx
    haveI : Inhabited Stp := ⟨⟨0, 0, ⟨⟨#[]⟩, 0, 0, false, ⟨#[]⟩⟩⟩⟩
    obtain ⟨E, hEv⟩ := Deep.choose_lt each
    refine ⟨(List.range len).map E, ⟨some a, cap, by rw [List.length_map, List.length_range], fun hne => ?_⟩, fun hL o ho => ?_, hplaces⟩
    · have hl0 : 0 < len := by
        rcases Nat.eq_zero_or_pos len with h | h
        · subst h; exact absurd rfl hne
        · exact h
      obtain ⟨b, off, spot⟩ := a
      have g0 := (hEv 0 (by omega)).2.2 0 (by decide)
      have hspot : spot = none := by
        have := World.cell?_spot (g0.trans rfl)
        simpa [Addr.add] using this
      subst hspot
      refine ⟨b, off, rfl, fun j hj c u hu => ?_⟩
      have hjl : j < len := by rw [List.length_map, List.length_range] at hj; exact hj
      have hc7 : c < 7 := by
        have := (List.getElem?_eq_some_iff.1 hu).1
        exact this
      have h2 := (hEv j (by omega)).2.2 c hc7
      rw [addPB, addPB] at h2
      rw [h2, ← hu]
      simp
    · obtain ⟨i, hi, rfl⟩ := List.mem_map.1 ho
      have hil := List.mem_range.1 hi
      refine (hEv i (by omega)).1 fun k hk => hL k ?_
      simp only [DataW.weights, underBO, List.mem_cons, List.mem_append]
      exact .inr (.inl (weightsAll_mem (List.mem_map.2 ⟨i, hi, rfl⟩) hk))
theorem acc_lt {w : World} (hT : Tabs w) : 5 < w.heap.size := World.block_lt_of_cell? w _ (hT.u8.2 0 (by decide)).1
/-- A Case that comes in. -/
theorem open_case {H : Type} {enc : TypeId × Value → H} {W : World} {r : Reach} {b0 base : Nat} {spare : Nat → Bool} {held : Bool} {v : Value} {d : DataW H} {p : List MemPlace} (hv : Value.okWide Tryz.prog W r b0 26 v) (h : DataW.Trod enc Tryz.prog W base spare held 26 v d p) :
    ∃ (p1 p2 rep : Int) (ov : Value) (l : List Stp), v = .agg #[.int .i64 p1, .int .i64 p2, .int .i64 rep, ov] ∧ SeeS W ov l ∧ (Light 26 d → ∀ s ∈ l, s.wf) ∧ ((Lit.int .i64 p1).wf = true ∧ (Lit.int .i64 p2).wf = true ∧ (Lit.int .i64 rep).wf = true) ∧ ∀ x ∈ p, x.block < W.heap.size := by
  obtain ⟨cs, rfl, hsz⟩ := okWide_struct fieldsBC hv
  obtain ⟨fuel, hf⟩ := h
  obtain ⟨xs, n, _, hx, hl, hlen, hfs⟩ := DataW.trod_struct fieldsBC hf
  have hsz2 := hsz.trans cellsBC
  obtain ⟨cl⟩ := cs
  match cl, hsz2, xs, hlen with
  | [c0, c1, c2, c3], _, [y0, y1, y2], _ =>
    have t0 : DataW.trod enc Tryz.prog W base spare held n 23 [c0, c1] = some y0 := by have h := hfs 0 _ rfl; simpa [Value.cells, cellsB3, cellsKeyU, cellsBL] using h
    have t1 : DataW.trod enc Tryz.prog W base spare held n 3 [c2] = some y1 := by have h := hfs 1 _ rfl; simpa [Value.cells, cellsB3, cellsKeyU, cellsBL] using h
    have t2 : DataW.trod enc Tryz.prog W base spare held n 24 [c3] = some y2 := by have h := hfs 2 _ rfl; simpa [Value.cells, cellsB3, cellsKeyU, cellsBL] using h
    obtain ⟨a, b, rfl, rfl, hy0, wa, wb⟩ := open_keyB t0
    obtain ⟨z1, e1, rfl, w1⟩ := DataW.trod_int Tryz.underlying3 t1
    obtain rfl := (List.cons.inj e1).1
    obtain ⟨D2, P2⟩ := y2
    obtain ⟨l, hs, hw, hp⟩ := open_opsB t2
    simp only [Prod.mk.injEq] at hx
    refine ⟨a, b, z1, c3, l, rfl, hs, fun hL => hw fun k hk => hL k ?_, ⟨wa, wb, w1⟩, fun x hx2 => ?_⟩
    · rw [hx.1]
      simp [DataW.weights, DataW.weightsEach, hk]
    · rw [hx.2] at hx2
      simp [hy0] at hx2
      exact hp x hx2
end Go.Proofs.YtbonnjilbocldaaGreatDoor
