/-
  Layouts: the law of the tilings.
-/
import Derived.Test.YtnepemlagnnngaaCTt
import Derived.Test.YtnepemlagnnngaaCWo
import Derived.Test.YtnepemlagnnngaaCTo
namespace Go.Proofs.Ytnepemlagnnngaa
open Go.RowKit
set_option linter.unusedVariables false
set_option maxRecDepth 100000

theorem tilesW_any (v : Value) (l : List CellV) (t : Tree) (X : World) (hv : CellsIn X v l) (hF : readF l = some t) : Calls Try.prog 15 #[v, .int .i64 t.box.w, .int .i64 t.box.h] X fun e w' => e = .returned (.bool true) ∧ Below X.heap.size X w' := by
  have hT := lay_tiled (readF_lay hF)
  obtain ⟨b, off, cap, rfl, _, k⟩ := hv.seen (by intro e; have := hT.len; rw [e] at this; simp at this)
  exact tiled_seen b off cap l.length l t.box.w t.box.h X k rfl hT

/-- The list as it is handed on. -/
def TilS (w : World) (v : Value) (W H : Int) (X : World) : Prop := ∃ l t, readF l = some t ∧ CellsIn X v l ∧ t.box.w = W ∧ t.box.h = H ∧ Below w.heap.size w X
theorem TilS.next {w : World} {v : Value} {W H : Int} {X Y : World} (h : TilS w v W H X) (hb : Below X.heap.size X Y) : TilS w v W H Y := by
  obtain ⟨l, t, hF, hv, h1, h2, hb0⟩ := h
  exact ⟨l, t, hF, hv.below hb, h1, h2, below_step hb0 hb⟩
/-- It is looked at. -/
def TilC (w : World) (v : Value) (W H : Int) (X : World) (P : World → Prop) : Prop := Calls Try.prog 14 #[v] X fun e Y => e = .returned (.int .i64 0) ∧ Calls Try.prog 15 #[v, .int .i64 W, .int .i64 H] Y fun e Z => e = .returned (.bool true) ∧ Below w.heap.size w Z ∧ P Z
theorem til_look {w : World} {v : Value} {W H : Int} {X : World} (h : TilS w v W H X) : TilC w v W H X (TilS w v W H) := by
  obtain ⟨l, t, hF, hv, rfl, rfl, hb⟩ := h
  have hc := check_any v l X hv
  have h0 : checkE l = 0 := by
    unfold checkE
    rw [hF]
    rfl
  rw [h0] at hc
  refine hc.mono ?_
  rintro e Y ⟨rfl, hb1⟩
  refine ⟨rfl, (tilesW_any v l t Y (hv.below hb1) hF).mono ?_⟩
  rintro e Z ⟨rfl, hb2⟩
  have hbZ := below_step (below_step hb hb1) hb2
  exact ⟨rfl, hbZ, l, t, hF, (hv.below hb1).below hb2, rfl, rfl, hbZ⟩
def TilN (w : World) (v : Value) (W H : Int) (o : OpV) (Z : World) : Prop := Calls Try.prog 16 #[v, .agg o.vals] Z fun e U => ∃ a n c f, e = .returned (.tuple #[.slice a n c, .int .i64 f]) ∧ Below w.heap.size w U ∧ ((f ≠ 0 ∧ n = 0 ∧ TilS w v W H U) ∨ (f = 0 ∧ (if o.k = 3 then TilS w (.slice a n c) o.a o.b U else TilS w (.slice a n c) W H U)))
theorem til_next {w : World} {v : Value} {W H : Int} {X : World} (h : TilS w v W H X) (o : OpV) (ho : o.Ok) : TilN w v W H o X := by
  obtain ⟨l, t, hF, hv, rfl, rfl, hb⟩ := h
  obtain ⟨er, r, hC, hA⟩ := opP_any hF o ho
  refine (hC v X hv).mono ?_
  rintro e U ⟨u, rfl, hu, hb1⟩
  obtain ⟨a, c, hs⟩ := own_sl5 hu
  subst hs
  have hbU := below_step hb hb1
  refine ⟨a, _, c, er, rfl, hbU, ?_⟩
  rcases hA with ⟨he, rfl⟩ | ⟨rfl, t', rfl, hB⟩
  · exact .inl ⟨he, rfl, l, t, hF, hv.below hb1, rfl, rfl, hbU⟩
  · right
    have hlay := laid_lay hB.sound hB.kinds hB.few
    have hbox := hB.box
    refine ⟨rfl, ?_⟩
    by_cases h3 : o.k = 3
    · rw [if_pos h3] at hbox ⊢
      exact ⟨_, _, lay_readF hlay, hu.cellsIn, by rw [box_moved]; exact hbox.1, by rw [box_moved]; exact hbox.2, hbU⟩
    · rw [if_neg h3] at hbox ⊢
      exact ⟨_, _, lay_readF hlay, hu.cellsIn, by rw [box_moved]; exact hbox.1, by rw [box_moved]; exact hbox.2, hbU⟩
theorem new_lay {a b : Int} (h : newErr a b 1 = 0) : IsLay [oneCell a b 1] (.leaf ⟨0, 0, a, b⟩ 1) := by
  obtain ⟨⟨h1, h2⟩, h3⟩ := new_sides h
  refine ⟨trivial, ?_, rfl, rfl, by show fewB [1] = true; decide⟩
  unfold Tree.sound
  simp [h1, h2, h3]

set_option maxHeartbeats 2000000 in
theorem tiles_bad (a b : Int) (v : Value) (w : World) (h : newErr a b 1 ≠ 0) : Calls Try.prog 4 #[.int .i64 a, .int .i64 b, v] w fun x w' => x = .returned (.bool true) ∧ Below w.heap.size w w' := by
  have HWo : Hid (∀ W, Calls Try.prog 10 #[] W fun e w' => e = .returned (.bool true) ∧ Below W.heap.size W w') := works_true
  have h41 : newErr a b 1 = 41 ∧ (a < 1 ∨ 1000 < a ∨ b < 1 ∨ 1000 < b) := by
    unfold newErr at h ⊢
    by_cases hs : (sideB a && sideB b) = false
    · rw [if_pos hs]
      refine ⟨rfl, Classical.byContradiction fun hn => ?_⟩
      have : (sideB a && sideB b) = true := by
        unfold sideB
        simp
        omega
      rw [this] at hs
      cases hs
    · rw [if_neg hs, if_neg (by decide)] at h
      exact absurd rfl h
  have HN1 : Hid (Calls Try.prog 13 #[.int .i64 a, .int .i64 b, .int .i64 1] w fun e w' => ∃ u, e = .returned (.tuple #[u, .int .i64 41]) ∧ Below w.heap.size w w') := by
    have := new_any a b 1 w
    rw [h41.1] at this
    exact this.mono fun e w' ⟨u, h1, _, h2⟩ => ⟨u, h1, h2⟩
  have hcase := h41.2
  clear h h41
  have hc4 : a < 1 ∨ (¬ a < 1 ∧ 1000 < a) ∨ (¬ a < 1 ∧ ¬ 1000 < a ∧ b < 1) ∨ (¬ a < 1 ∧ ¬ 1000 < a ∧ ¬ b < 1 ∧ 1000 < b) := by omega
  clear hcase
  rcases hc4 with g1 | ⟨g1, g2⟩ | ⟨g1, g2, g3⟩ | ⟨g1, g2, g3, g4⟩
  all_goals (
    go_enter Try.func4, Try.ntmps4
    go_wp2_with fail
    refine HN1.out.mono ?_
    rintro e w1 ⟨u, rfl, hb1⟩
    have HB1 := hiddenK hb1
    clear hb1
    go_wp2_with fail
    refine (HWo.out _).mono ?_
    rintro e w2 ⟨rfl, hb2⟩
    have HB2 := hiddenK (below_step HB1.out hb2)
    clear hb2 HB1
    go_wp2_with fail
    refine (HWo.out _).mono ?_
    rintro e w3 ⟨rfl, hb3⟩
    have HB3 := hiddenK (below_step HB2.out hb3)
    clear hb3 HB2
    go_wp2
    go_ret
    exact ⟨rfl, HB3.out⟩)

set_option maxHeartbeats 4000000 in
theorem tiles_good (a b : Int) (v : Value) (ops : List OpV) (w : World) (h : newErr a b 1 = 0) (hv : OpsIn w v ops) (hok : ∀ o ∈ ops, o.Ok) (hlen : ops.length ≤ 140737488351232) : Calls Try.prog 4 #[.int .i64 a, .int .i64 b, v] w fun x w' => x = .returned (.bool true) ∧ Below w.heap.size w w' := by
  obtain ⟨ad, cap, rfl, hrow⟩ := hv.row
  have HRow := hiddenK hrow
  have HOk := hiddenK hok
  obtain ⟨n, hn⟩ : ∃ n, ops.length = n := ⟨_, rfl⟩
  have HN := hiddenK hn
  rw [hn] at hlen ⊢
  have HN1 : Hid (Calls Try.prog 13 #[.int .i64 a, .int .i64 b, .int .i64 1] w fun e w' => ∃ u, e = .returned (.tuple #[u, .int .i64 0]) ∧ Calls Try.prog 10 #[] w' fun e w2 => e = .returned (.bool true) ∧ TilS w u a b w2) := by
    have := new_any a b 1 w
    rw [h] at this
    refine this.mono ?_
    rintro e w1 ⟨u, rfl, hu, hb1⟩
    refine ⟨u, rfl, (works_true w1).mono ?_⟩
    rintro e w2 ⟨rfl, hb2⟩
    have hl : newL a b 1 = [oneCell a b 1] := by
      unfold newL
      rw [if_pos h]
    rw [hl] at hu
    exact ⟨rfl, _, _, lay_readF (new_lay h), hu.cellsIn.below hb2, rfl, rfl, below_step hb1 hb2⟩
  clear hrow hok hn hv h
  go_enter Try.func4, Try.ntmps4
  go_wp2_with fail
  refine HN1.out.mono ?_
  rintro e w1 ⟨u, rfl, h1⟩
  have H1 := hiddenK h1
  clear h1 HN1
  go_wp2_with fail
  refine H1.out.mono ?_
  rintro e w2 ⟨rfl, h2⟩
  have H2 := hiddenK h2
  clear h2 H1
  go_wp2_with fail
  go_loopw [0, 1, 7, 9] (fun vw vh vl vi wr => ∃ i : Nat, i ≤ n ∧ vi = .int .i64 i ∧ ∃ W H : Int, vw = .int .i64 W ∧ vh = .int .i64 H ∧ Hid (TilS w vl W H wr)) (fun _ _ _ vi _ => n - (intOf vi).toNat)
  case atStart => exact ⟨0, Nat.zero_le _, rfl, a, b, rfl, rfl, H2⟩
  case round =>
    obtain ⟨i, hi, rfl, W, H, rfl, rfl, HS⟩ := hrel
    clear H2
    have HL := hiddenK (til_look HS.out)
    unfold TilC at HL
    by_cases hlt : i < n
    · obtain ⟨o, ho⟩ : ∃ o, ops[i]? = some o := ⟨_, List.getElem?_eq_getElem (by rw [HN.out]; exact hlt)⟩
      obtain ⟨g, off, had, hcell⟩ := HRow.out i o ho
      subst had
      have HCell := hiddenK hcell
      have HOo := hiddenK (HOk.out o (List.mem_of_getElem? ho))
      clear hcell ho HS
      go_wp2_with fail
      refine HL.out.mono ?_
      rintro e Y ⟨rfl, h1⟩
      have H1 := hiddenK h1
      clear h1 HL
      go_wp2_with fail
      refine H1.out.mono ?_
      rintro e Z ⟨rfl, hbZ, h2⟩
      have HN2 := hiddenK (til_next h2 o HOo.out)
      obtain ⟨k, pane, kind, size, bf, id, oa, ob⟩ := o
      obtain ⟨c0, c1, c2, c3, c4, c5, c6, c7⟩ := HCell.out Z hbZ
      unfold TilN OpV.vals at HN2
      dsimp only at HN2 c0 c1 c2 c3 c4 c5 c6 c7
      clear h2 H1 hbZ
      go_wp2_with fail
      refine HN2.out.mono ?_
      rintro e U ⟨sa, sn, sc, f, rfl, hbU, hcase⟩
      clear c0 c1 c2 c3 c4 c5 c6 c7 HN2
      rcases hcase with ⟨hf, rfl, h3⟩ | ⟨rfl, h3⟩
      · have hf' : (f != 0) = true := by simpa using hf
        have H3 := hiddenK h3
        clear h3 hf hbU
        go_wp2_with fail
        go_roundw
        case rel => exact ⟨i + 1, by omega, by go_num, W, H, rfl, rfl, H3⟩
        case measure => simp [intOf]; omega
      · obtain ⟨d0, d1, d2, d3, d4, d5, d6, d7⟩ := HCell.out U hbU
        dsimp only at d0 d1 d2 d3 d4 d5 d6 d7
        clear hbU
        by_cases hk : k = 3
        · subst hk
          rw [if_pos rfl] at h3
          have H3 := hiddenK h3
          clear h3
          go_wp2_with fail
          go_region
          all_goals (
            go_wp2_with fail
            go_roundw
            case rel => exact ⟨i + 1, by omega, by go_num, oa, ob, rfl, rfl, H3.out.next (Below.refl _ _).drew⟩
            case measure => simp [intOf]; omega)
        · rw [if_neg hk] at h3
          have H3 := hiddenK h3
          have hk' : (k == 3) = false := by simpa using hk
          clear h3 hk
          go_wp2_with fail
          go_roundw
          case rel => exact ⟨i + 1, by omega, by go_num, W, H, rfl, rfl, H3⟩
          case measure => simp [intOf]; omega
    · have hin : i = n := by omega
      subst hin
      clear HS HRow HOk
      go_wp2_with fail
      refine HL.out.mono ?_
      rintro e Y ⟨rfl, h1⟩
      have H1 := hiddenK h1
      clear h1 HL
      go_wp2_with fail
      refine H1.out.mono ?_
      rintro e Z ⟨rfl, hbZ, _⟩
      have HF := hiddenK hbZ
      clear hbZ H1
      go_wp2
      go_ret
      exact ⟨rfl, HF.out⟩

theorem tiles_walk (a b : Int) (v : Value) (ops : List OpV) (w : World) (hv : OpsIn w v ops) (hok : ∀ o ∈ ops, o.Ok) (hlen : ops.length ≤ 140737488351232) : Calls Try.prog 4 #[.int .i64 a, .int .i64 b, v] w fun x w' => x = .returned (.bool true) ∧ Below w.heap.size w w' := by
  by_cases h : newErr a b 1 = 0
  · exact tiles_good a b v ops w h hv hok hlen
  · exact tiles_bad a b v w h

end Go.Proofs.Ytnepemlagnnngaa
