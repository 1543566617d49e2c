/-
  Plans: the statements on Repane, walked.
-/
import Derived.Test.YtglncninkocgaaaGreatDoorDL
import Derived.Test.YtglncninkocgaaaGreatDoorCZB
import Derived.BigQuiet
namespace Go.Proofs.YtglncninkocgaaaGreatDoor
open Go.RowKit
set_option linter.unusedVariables false
set_option maxRecDepth 100000

theorem infoIntN : (Tryz.prog.info? 3).map (fun i => (i.zero, i.size, i.bytes)) = some (some (.int .i64 0), 1, 8) := by kernel_rfl
theorem IOwns.intsIn {w : World} {B : Nat} {v : Value} {zs : List Int} (h : IOwns w B v zs) : IntsIn w v zs := by
  rcases h.2 with ⟨rfl, h0⟩ | ⟨g, cap, cur, rfl, hg, h4, h5, h6, h7, h8⟩
  · have hz : zs = [] := List.length_eq_zero_iff.1 h0
    subst hz
    exact ⟨_, _, rfl, .inl rfl⟩
  · refine ⟨_, _, rfl, .inr ⟨g, 0, rfl, fun j x hx => ?_⟩⟩
    rw [Nat.zero_add, cell_atN h4 j]
    have e : (cur.toList.take (zs.length * 1))[j]? = some (.int .i64 x) := by rw [h8, List.getElem?_map, hx]; rfl
    have hj : j < zs.length * 1 := by have := (List.getElem?_eq_some_iff.1 hx).1; omega
    rw [List.getElem?_take, if_pos hj, Array.getElem?_toList] at e
    exact e
theorem wpList_append_ints {ops : Array Oper} {rest : List Oper} {o : Oper} {a : Act} {Q : Exit → Act → World → Prop} (w : World) (hgd : o.guard = none) (s x : Operand)
    (ho : o.op = .call { callee := .builtin .append, args := #[s, x], argTypes := #[34, 34] })
    (B : Nat) (v0 : Value) (l0 : List Int) (hs : a.eval s = v0) (hown : IOwns w B v0 l0) (hB : B ≤ w.heap.size)
    (v : Value) (l : List Int) (hx : a.eval x = v) (hv : IntsIn w v l) (hn : v = .slice none 0 0 ∨ ∃ a n c, v = .slice (some a) n c) (hlen : (l0.length + l.length) * 8 ≤ 140737488351232)
    (h : ∀ v' w', IOwns w' B v' (l0 ++ l) → w.grownBy w' v0.ownBlock → wpList Tryz.prog ops Q rest (a.put o.dst v') w') : wpList Tryz.prog ops Q (o :: rest) a w := by
  obtain ⟨i0, hi, hz0, hz1, hz2⟩ := info_partsL infoIntN
  obtain ⟨ad, cap, h1, h3⟩ := hv.shape
  rcases hn with rfl | ⟨a', n', c', hv'⟩
  · have hl : l = [] := List.length_eq_zero_iff.1 (by injection h1 with _ e _; exact e.symm)
    subst hl
    refine wpList_append_own_none hgd s x 34 ho B 3 i0 1 Tryz.underlying34 hi _ l0.length (l0.map (Value.int .i64)) hs hown hx ?_
    exact h _ w (by rw [List.append_nil]; exact hown) ⟨rfl, rfl, rfl, Nat.le_refl _, fun _ _ _ => rfl⟩
  · subst hv'
    cases h1
    refine wpList_append_own_at _ hgd s x 34 ho B 3 i0 (.int .i64 0) 1 8 Tryz.underlying34 hi hz0 hz1 hz2 rfl (by decide) _ l0.length (l0.map (Value.int .i64)) hs hown a' l.length cap (l.map (Value.int .i64)) hx (by simp) ?_ (by intro y hy; obtain ⟨q, _, rfl⟩ := List.mem_map.1 hy; rfl) ?_ ?_ hB ?_
    · intro j u hu
      rcases h3 with rfl | ⟨b, off, e, h4⟩
      · simp at hu
      · cases e
        rw [add_plainL]
        rw [List.getElem?_map] at hu
        obtain ⟨q, hq, rfl⟩ := Option.map_eq_some_iff.1 hu
        exact h4 j q hq
    · unfold maxLen; omega
    · omega
    · intro v' w' k2 k3 _ _
      refine h v' w' ?_ k3
      unfold IOwns
      rw [List.map_append, List.length_append]
      exact k2
theorem i_slice {w : World} {B : Nat} {v : Value} {zs : List Int} (h : IOwns w B v zs) : ∃ a c, v = .slice a zs.length c := by
  rcases h.2 with ⟨rfl, h0⟩ | ⟨g, cap, cur, rfl, _⟩
  · exact ⟨_, _, by rw [h0]⟩
  · exact ⟨_, _, rfl⟩
theorem repR_len (l : List CellV) (ps : List Int) (h : l.length * 56 ≤ 140737488351232) : (repR l ps).length ≤ 4611686018427387904 := by
  unfold repR
  split
  · rw [repL_length]; omega
  · simp

set_option maxHeartbeats 4000000 in
theorem planRepanes_walk (v u : Value) (l : List CellV) (ps : List Int) (w : World) (hv : CellsIn w v l) (hz : v = .slice none 0 0 ∨ ∃ a n c, v = .slice (some a) n c) (hlen : l.length * 56 ≤ 140737488351232) (hu : IntsIn w u ps) (hzu : u = .slice none 0 0 ∨ ∃ a n c, u = .slice (some a) n c) (hlp : ps.length * 8 ≤ 140737488351232) (hN : NumV w) : Calls Tryz.prog 7 #[v, u] w fun e w' => e = .returned (.bool true) ∧ Below w.heap.size w w' := by
  have HV : Hid (CellsIn (w.alloc (.cells #[] 39)) v l) := hv.below ((Below.refl _ _).alloc (Nat.le_refl _) _)
  have HO0 : Hid (CeOwns (w.alloc (.cells #[] 39)) w.heap.size (.slice (some ⟨w.heap.size, 0, none⟩) 0 0) []) := World.ownsRow_lit w #[] 0 (Nat.le_refl _) (by decide) (by simp)
  have HB0 : Hid (w.heap.size ≤ (w.alloc (.cells #[] 39)).heap.size) := by show _ ≤ _; simp
  have HU : Hid (∀ X, Below w.heap.size w X → IntsIn (X.alloc (.cells #[] 3)) u ps) := fun X hX => hu.below (below_step hX ((Below.refl _ _).alloc (Nat.le_refl _) _))
  have HI0 : Hid (∀ X : World, IOwns (X.alloc (.cells #[] 3)) X.heap.size (.slice (some ⟨X.heap.size, 0, none⟩) 0 0) []) := fun X => World.ownsRow_lit X #[] 0 (Nat.le_refl _) (by decide) (by simp)
  have HIB : Hid (∀ X : World, X.heap.size ≤ (X.alloc (.cells #[] 3)).heap.size) := fun X => by simp
  have HZ := hidden hz
  have HZu := hidden hzu
  obtain ⟨E, hE⟩ : ∃ E, repE l ps = E := ⟨_, rfl⟩
  have HRp : Hid (∀ X, Below w.heap.size w X → Calls Tryz.prog 14 #[v, u] X fun e w' => ∃ sl, e = .returned (.tuple #[sl, .int .i64 E]) ∧ CeOwns w' X.heap.size sl (repR l ps) ∧ Below X.heap.size X w') := fun X hX => by rw [← hE]; exact repane_any v u l ps X (hv.below hX) (hu.below hX) (by omega)
  have HRr : Hid (∀ x y X, CellsIn X x l → IntsIn X y ps → Calls Tryz.prog 18 #[x, y] X fun e w' => ∃ sl, e = .returned (.tuple #[sl, .int .i64 E]) ∧ CeOwns w' X.heap.size sl (repR l ps) ∧ Below X.heap.size X w') := fun x y X hX hY => by rw [← hE]; exact refRepane_any x y l ps X hX hY (by omega)
  have HS1 : Hid (∀ x y X, CellsIn X x (repR l ps) → CellsIn X y (repR l ps) → Calls Tryz.prog 13 #[x, y] X fun e w' => e = .returned (.bool true) ∧ Below X.heap.size X w') := fun x y X h1 h2 => by
    have h := same_any5 x y _ _ X h1 h2 (repR_len l ps hlen)
    simpa using h
  have HS2 : Hid (∀ x X, Below w.heap.size w X → CellsIn X x l → Calls Tryz.prog 13 #[v, x] X fun e w' => e = .returned (.bool true) ∧ Below X.heap.size X w') := fun x X hX h2 => by
    have h := same_any5 v x l l X (hv.below hX) h2 (by omega)
    simpa using h
  have HS : Hid (∀ X, Below w.heap.size w X → Calls Tryz.prog 10 #[] X fun e w' => e = .returned (.bool true) ∧ Below X.heap.size X w') := fun X hX => sure_true X (hN.below hX)
  have HUs := hidden hu
  have HL := hidden hlen
  have HLp := hidden hlp
  obtain ⟨va, vn, vc, hvs⟩ : ∃ a n c, v = .slice a n c := by rcases hz with h | ⟨a, n, c, h⟩; exact ⟨_, _, _, h⟩; exact ⟨_, _, _, h⟩
  subst hvs
  obtain ⟨ua, M, uc, hus⟩ : ∃ a n c, u = .slice a n c := by rcases hzu with h | ⟨a, n, c, h⟩; exact ⟨_, _, _, h⟩; exact ⟨_, _, _, h⟩
  have hM : ps.length = M := by
    obtain ⟨_, _, h1, _⟩ := hu.shape
    rw [hus] at h1
    injection h1 with _ e _
    exact e.symm
  have HM := hidden hM
  have hMb : M ≤ 100000000000000 := by omega
  subst hus
  clear hv hN hE hlen hlp hz hzu hu hM
  go_enter Tryz.func7, Tryz.ntmps7
  go_wp2_with (first
    | (at_builtin; refine wpList_append_cells _ rfl _ _ rfl w.heap.size (.slice (some ⟨w.heap.size, 0, none⟩) 0 0) [] ?y1 HO0.out HB0.out (.slice va vn vc) l ?y2 HV.out HZ.out ?y3 ?_; (case y1 => simp [Act.eval]); (case y2 => simp [Act.eval]); (case y3 => have := HL.out; simp; omega); intro v' w' k2 k3; obtain ⟨sa, sn, sc, rfl⟩ := ce_slice k2; have HO1 := hidden k2; have H1 : Hid (Below w.heap.size w w') := below_grown ((Below.refl _ _).alloc (Nat.le_refl _) _) k3 (Nat.le_refl _); clear k2 k3)
    | (at_builtin; refine wpList_append_ints _ rfl _ _ rfl w'.heap.size (.slice (some ⟨w'.heap.size, 0, none⟩) 0 0) [] ?z1 (HI0.out _) (HIB.out _) (.slice ua M uc) ps ?z2 (HU.out _ H1.out) HZu.out ?z3 ?_; (case z1 => simp [Act.eval]); (case z2 => simp [Act.eval]); (case z3 => have := HLp.out; simp; omega); intro v2 w2 k2 k3; obtain ⟨ia, ic, hia⟩ := i_slice k2; rw [List.nil_append] at k2 hia; rw [HM.out] at hia; subst hia; have HI2 := hidden k2; have HBx : Hid (Below w'.heap.size w' w2) := below_grown ((Below.refl _ _).alloc (Nat.le_refl _) _) k3 (Nat.le_refl _); have H2 := hidden (below_step H1.out HBx.out); have HO2 := hidden (HO1.out.below HBx.out); clear k2 k3)
    | (go_at_call 14; refine (HRp.out _ H2.out).mono ?_; rintro e w3 ⟨sl3, rfl, ho3, hb3⟩; obtain ⟨ra, rn, rc, rfl⟩ := ce_slice ho3; have HP3 := hidden ho3; have H3 := hidden (below_step H2.out hb3); have HO3 := hidden (HO2.out.below hb3); have HI3 := hidden (HI2.out.below hb3); clear ho3 hb3)
    | (go_at_call 18; refine (HRr.out _ _ _ HO3.out.cellsIn HI3.out.intsIn).mono ?_; rintro e w4 ⟨sl4, rfl, ho4, hb4⟩; obtain ⟨qa, qn, qc, rfl⟩ := ce_slice ho4; have HQ4 := hidden ho4; have HP4 := hidden (HP3.out.below hb4); have H4 := hidden (below_step H3.out hb4); have HO4 := hidden (HO3.out.below hb4); have HI4 := hidden (HI3.out.below hb4); clear ho4 hb4))
  go_loopw [11] (fun s wr => ∃ i : Nat, i ≤ M ∧ s = .int .i64 i ∧ Hid (Below w4.heap.size w4 wr)) (fun s _ => M - (intOf s).toNat)
  case atStart => exact ⟨0, Nat.zero_le _, rfl, Below.refl _ _⟩
  case round =>
    obtain ⟨i, hi, rfl, HB⟩ := hrel
    by_cases hlt : i < M
    · obtain ⟨p, hp⟩ : ∃ p, ps[i]? = some p := ⟨_, List.getElem?_eq_getElem (by rw [HM.out]; exact hlt)⟩
      obtain ⟨ad1, cap1, e1, f1⟩ := (HUs.out.below (below_step H4.out HB.out)).shape
      obtain ⟨ad2, cap2, e2, f2⟩ := (HI4.out.below HB.out).intsIn.shape
      have hne : ps ≠ [] := by rintro rfl; cases hp
      rcases f1 with f1 | ⟨b1, o1, rfl, f1⟩
      · exact absurd f1 hne
      rcases f2 with f2 | ⟨b2, o2, rfl, f2⟩
      · exact absurd f2 hne
      injection e1 with e1 _ _
      injection e2 with e2 _ _
      subst e1
      subst e2
      have p1 := f1 i p hp
      have p2 := f2 i p hp
      have hiz : (i : Int) < (M : Int) := by omega
      have hpp : (p != p) = false := by simp
      clear hp hne f1 f2
      go_wp2
      go_quiet (fail)
      go_wp2
      go_roundw
      case rel => exact ⟨i + 1, by omega, by first | rfl | go_num, below_drewN HB.out _⟩
      case measure => simp [intOf]; omega
    · have hiM : i = M := by omega
      subst hiM
      have H5 := hidden (below_step H4.out HB.out)
      have HO5 := hidden (HO4.out.below HB.out)
      have HP5 := hidden (HP4.out.below HB.out)
      have HQ5 := hidden (HQ4.out.below HB.out)
      go_wp2_with fail
      refine (HS1.out _ _ _ HP5.out.cellsIn HQ5.out.cellsIn).mono ?_
      rintro e w6 ⟨rfl, hb6⟩
      have H6 := hidden (below_step H5.out hb6)
      have HO6 := hidden (HO5.out.below hb6)
      clear hb6
      go_wp2_with fail
      refine (HS2.out _ _ H6.out HO6.out.cellsIn).mono ?_
      rintro e w7 ⟨rfl, hb7⟩
      have H7 := hidden (below_step H6.out hb7)
      clear hb7
      go_wp2_with (go_at_call 10; refine (HS.out _ H7.out).mono ?_; rintro e w8 ⟨rfl, hb8⟩)
      all_goals go_ret
      exact ⟨rfl, below_step H7.out hb8⟩
end Go.Proofs.YtglncninkocgaaaGreatDoor
