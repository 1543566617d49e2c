/-
  Layouts: the tree that a list lays down, read.
-/
import Derived.Test.YtcjcekaahooamaaLIds
import Derived.Test.YtcjcekaahooamaaLTakeA
import Derived.Test.YtcjcekaahooamaaLTakeF
namespace Go.Proofs.Ytcjcekaahooamaa
open Go.RowKit
set_option linter.unusedVariables false
set_option maxRecDepth 100000

/-- The tree of a list; none, if it is no layout. -/
def readF (l : List CellV) : Option Tree :=
  if 63 < l.length then none else
  match takeF l 0 with
  | none => none
  | some (t, _) => if t.sound = true ∧ (t.moved 0 0).tell 0 = l ∧ fewB (idsOf l) = true then some (t.moved 0 0) else none

def ReadGood (l : List CellV) (w : World) (e : Ending) (w' : World) : Prop :=
  (readF l = none ∧ e = .returned nilPart ∧ Below w.heap.size w w') ∨
  (∃ t T g fp, readF l = some t ∧ e = .returned (.iface T (.pointer (some ⟨g, 0, none⟩))) ∧ t.At w' 0 (.iface T (.pointer (some ⟨g, 0, none⟩))) fp ∧ fp.Nodup ∧ (∀ q ∈ fp, w.heap.size ≤ q) ∧ Below w.heap.size w w')

theorem readF_long {l : List CellV} (h : 63 < l.length) : readF l = none := by unfold readF; rw [if_pos h]
theorem readF_none {l : List CellV} (h : takeF l 0 = none) : readF l = none := by
  unfold readF
  split
  · rfl
  · rw [h]
theorem readF_some {l : List CellV} {t : Tree} {r : List CellV} (h0 : ¬ 63 < l.length) (h : takeF l 0 = some (t, r)) : readF l = if t.sound = true ∧ (t.moved 0 0).tell 0 = l ∧ fewB (idsOf l) = true then some (t.moved 0 0) else none := by
  unfold readF
  rw [if_neg h0, h]

theorem read_long (v : Value) (l : List CellV) (w : World) (h : CellsIn w v l) (hl : 63 < l.length) : Calls Try.prog 10 #[v] w (ReadGood l w) := by
  obtain ⟨ad, cap, rfl⟩ := h.length
  have HF : Hid (ReadGood l w (.returned nilPart) w) := .inl ⟨readF_long hl, rfl, Below.refl _ _⟩
  obtain ⟨n, hn⟩ : ∃ n, l.length = n := ⟨_, rfl⟩
  rw [hn] at hl ⊢
  have hi : (63 : Int) < n := by omega
  clear hn h hl
  go_enter Try.func10, Try.ntmps10
  go_wp2
  go_ret
  exact HF.out

theorem few_any (u : Value) (zs : List Int) (w0 w : World) (B : Nat) (h : IOwns w B u zs) (hw : Below B w0 w) (hn : zs.length ≤ 1000000) : Calls Try.prog 20 #[u] w fun e w' => e = .returned (.bool (fewB zs)) ∧ Below B w0 w' := by
  rcases h.2 with ⟨rfl, h0⟩ | ⟨g, cap, cur, rfl, hb, r⟩
  · have : zs = [] := List.length_eq_zero_iff.1 h0
    subst this
    exact (few_none none 0 w).mono fun e w' h => ⟨h.1, h.2 ▸ hw⟩
  · exact few_some g cap zs.length zs B w0 w h rfl hw hn

/-- What the tree does, one call behind the other. -/
structure Behind (l : List CellV) (v : Value) (t : Tree) (T : TypeId) (g : Nat) (fp : List Nat) (w w1 : World) (Fs : FuncId) : Prop where
  mS : ∀ W, (method 241 T (.pointer (some ⟨g, 0, none⟩)) "mullion/layout.sound").run Try.prog W = .ok (Fs, .pointer (some ⟨g, 0, none⟩)) W
  fS : ∀ a W, (callFunc Fs #[a]).run Try.prog W = .ok (.enter Fs #[a]) W
  cS : Calls Try.prog Fs #[.pointer (some ⟨g, 0, none⟩)] w1 fun e w2 => e = .returned (.bool t.sound) ∧ Below w1.heap.size w1 w2
  cL : ∀ w2, Below w1.heap.size w1 w2 → t.sound = true → Calls Try.prog 11 #[.iface T (.pointer (some ⟨g, 0, none⟩))] w2 fun e w3 => ∃ u, e = .returned u ∧ Below w.heap.size w w3 ∧
    Calls Try.prog 19 #[u, v] w3 fun e w4 => e = .returned (.bool (decide ((t.moved 0 0).tell 0 = l))) ∧ Below w.heap.size w w4 ∧
    Calls Try.prog 21 #[v] w4 fun e w5 => ∃ z, e = .returned z ∧ Below w.heap.size w w5 ∧
    Calls Try.prog 20 #[z] w5 fun e w6 => e = .returned (.bool (fewB (idsOf l))) ∧ Below w.heap.size w w6 ∧ (t.moved 0 0).At w6 0 (.iface T (.pointer (some ⟨g, 0, none⟩))) fp

theorem behind (l : List CellV) (v : Value) (t : Tree) (T : TypeId) (g : Nat) (fp : List Nat) (w w1 : World) (hv : CellsIn w v l) (hl : ¬ 63 < l.length) (r : List CellV) (hF : takeF l 0 = some (t, r)) (hAt : t.At w1 0 (.iface T (.pointer (some ⟨g, 0, none⟩))) fp) (hnd : fp.Nodup) (hge : ∀ q ∈ fp, w.heap.size ≤ q) (hb : Below w.heap.size w w1) : ∃ Fs, Behind l v t T g fp w w1 Fs := by
  obtain ⟨hfi, hsz⟩ := (takes_fine l.length l 0 (Nat.le_refl _) (by omega)).1 t r hF
  obtain ⟨T', gi, Fs, Fa, hp⟩ := hAt.partS hfi
  have e := hp.val
  cases e
  refine ⟨Fs, hp.mS, hp.fS, hp.cS w1 (Below.refl _ _), fun w2 h2 hs => ?_⟩
  have hAt2 := hAt.below h2
  refine (lay_any t 0 _ fp w2 hAt2 hnd hs hfi (by omega)).mono ?_
  rintro e w3 ⟨u, rfl, hu, hAt3, hbut⟩
  have hb2 : Below w.heap.size w w2 := below_step hb h2
  have hb3 : Below w.heap.size w w3 := ⟨hbut.os.trans hb2.os, hbut.tape.trans hb2.tape, hbut.output.trans hb2.output, Nat.le_trans hb2.size hbut.size, fun q hq => (hbut.block q (by have := hb2.size; omega) (fun e => by have := hge q e; omega)).trans (hb2.block q hq)⟩
  refine ⟨u, rfl, hb3, ?_⟩
  refine (equal_any u v _ l w3 hu.cellsIn (hv.below hb3) (by rw [Tree.tell_length, Tree.size_moved]; omega)).mono ?_
  rintro e w4 ⟨rfl, h4⟩
  have hb4 := below_step hb3 h4
  refine ⟨rfl, hb4, ?_⟩
  refine (paneIds_any v l w4 (hv.below hb4) (by omega)).mono ?_
  rintro e w5 ⟨z, rfl, hz, h5⟩
  refine ⟨z, rfl, below_step hb4 h5, ?_⟩
  refine (few_any z _ w4 w5 w4.heap.size hz h5 (by have := idsOf_length l; omega)).mono ?_
  rintro e w6 ⟨rfl, h6⟩
  exact ⟨rfl, below_step hb4 h6, (hAt3.below h4).below h6⟩

set_option maxHeartbeats 1000000 in
theorem read_short (v : Value) (l : List CellV) (w : World) (h : CellsIn w v l) (hl : ¬ 63 < l.length) : Calls Try.prog 10 #[v] w (ReadGood l w) := by
  have HT : Hid (Calls Try.prog 18 #[v, .int .i64 0] w (TakeGood w l v 0 w)) := take_any l.length l v 0 w w (Nat.le_refl _) (by omega) (Below.refl _ _) h
  have HV : Hid (CellsIn w v l) := h
  have HL : Hid (¬ 63 < l.length) := hl
  obtain ⟨ad, cap, hvv⟩ := h.length
  obtain ⟨n, hn⟩ : ∃ n, l.length = n := ⟨_, rfl⟩
  rw [hn] at hvv
  have hi : ¬ ((63 : Int) < n) := by omega
  subst hvv
  clear hn h hl
  go_enter Try.func10, Try.ntmps10
  go_wp2_with fail
  refine HT.out.mono ?_
  rintro e w1 (⟨hF, rfl, hb⟩ | ⟨t, r, T, g, fp, v', hF, rfl, hAt, hnd, hge, hc, hb⟩)
  · have HG : Hid (ReadGood l w (.returned nilPart) w1) := .inl ⟨readF_none hF, rfl, hb⟩
    clear hF hb
    unfold nilPart at HG ⊢
    go_wp2
    go_ret
    exact HG.out
  · have HRF : Hid (readF l = _) := readF_some HL.out hF
    obtain ⟨Fs, HBe⟩ := behind l _ t T g fp w w1 HV.out HL.out r hF hAt hnd hge hb
    have HP : Hid (Behind l _ t T g fp w w1 Fs) := HBe
    have m1 := HBe.mS
    have m2 := HBe.fS
    have HND : Hid (fp.Nodup ∧ (∀ q ∈ fp, w.heap.size ≤ q)) := ⟨hnd, hge⟩
    have HB1 : Hid (Below w.heap.size w w1) := hb
    clear hF hAt hnd hge hc hb HBe
    go_wp2_with fail
    refine HP.out.cS.mono ?_
    rintro e w2 ⟨rfl, hb2⟩
    have HcL : Hid (t.sound = true → _) := HP.out.cL w2 hb2
    have HB2 : Hid (Below w.heap.size w w2) := below_step HB1.out hb2
    obtain ⟨sd, hsd⟩ : ∃ s, t.sound = s := ⟨_, rfl⟩
    rw [hsd] at HRF HcL
    rw [hsd]
    clear HP hb2 HB1 hsd m1 m2
    cases sd
    · have HG : Hid (ReadGood l w (.returned nilPart) w2) := .inl ⟨by rw [HRF.out]; simp, rfl, HB2.out⟩
      unfold nilPart at HG
      go_wp2
      go_ret
      exact HG.out
    · have HcL2 : Hid (Calls Try.prog 11 _ w2 _) := HcL.out rfl
      clear HcL
      go_wp2_with fail
      refine HcL2.out.mono ?_
      rintro e w3 ⟨u, rfl, hb3, hc3⟩
      have HC3 : Hid (Calls Try.prog 19 _ w3 _) := hc3
      clear hb3 hc3
      go_wp2_with fail
      refine HC3.out.mono ?_
      rintro e w4 ⟨rfl, hb4, hc4⟩
      have HB4 : Hid (Below w.heap.size w w4) := hb4
      have HC4 : Hid (Calls Try.prog 21 _ w4 _) := hc4
      obtain ⟨q, hq⟩ : ∃ q, decide ((t.moved 0 0).tell 0 = l) = q := ⟨_, rfl⟩
      rw [hq]
      have HQ : Hid (decide ((t.moved 0 0).tell 0 = l) = q) := hq
      clear hb4 hc4 hq
      cases q
      · have HG : Hid (ReadGood l w (.returned nilPart) w4) := .inl ⟨by rw [HRF.out, if_neg (fun h => (of_decide_eq_false HQ.out) h.2.1)], rfl, HB4.out⟩
        unfold nilPart at HG
        go_wp2
        go_ret
        exact HG.out
      · go_wp2_with fail
        refine HC4.out.mono ?_
        rintro e w5 ⟨z, rfl, hb5, hc5⟩
        have HC5 : Hid (Calls Try.prog 20 _ w5 _) := hc5
        clear hb5 hc5
        go_wp2_with fail
        refine HC5.out.mono ?_
        rintro e w6 ⟨rfl, hb6, hat6⟩
        obtain ⟨f, hf⟩ : ∃ f, fewB (idsOf l) = f := ⟨_, rfl⟩
        rw [hf]
        cases f
        · have HG : Hid (ReadGood l w (.returned nilPart) w6) := .inl ⟨by rw [HRF.out, hf]; simp, rfl, hb6⟩
          unfold nilPart at HG
          clear hb6 hat6 hf
          go_wp2
          go_ret
          exact HG.out
        · have HG : Hid (ReadGood l w (.returned (.iface T (.pointer (some ⟨g, 0, none⟩)))) w6) := .inr ⟨t.moved 0 0, T, g, fp, by rw [HRF.out, hf, if_pos (by simp [of_decide_eq_true HQ.out])], rfl, hat6, HND.out.1, HND.out.2, hb6⟩
          clear hb6 hat6 hf
          go_wp2
          go_ret
          exact HG.out

theorem read_any (v : Value) (l : List CellV) (w : World) (h : CellsIn w v l) : Calls Try.prog 10 #[v] w (ReadGood l w) := by
  by_cases hl : 63 < l.length
  · exact read_long v l w h hl
  · exact read_short v l w h hl

def checkE (l : List CellV) : Int := if (readF l).isNone then 40 else 0
theorem check_any (v : Value) (l : List CellV) (w : World) (h : CellsIn w v l) : Calls Try.prog 16 #[v] w fun e w' => e = .returned (.int .i64 (checkE l)) ∧ Below w.heap.size w w' := by
  have HR : Hid (Calls Try.prog 10 #[v] w (ReadGood l w)) := read_any v l w h
  clear h
  go_enter Try.func16, Try.ntmps16
  go_wp2_with fail
  refine HR.out.mono ?_
  rintro e w1 (⟨hF, rfl, hb⟩ | ⟨t, T, g, fp, hF, rfl, hAt, hnd, hge, hb⟩)
  · have HE : Hid (checkE l = 40) := by show checkE l = 40; unfold checkE; rw [hF]; rfl
    unfold nilPart
    clear hF
    go_wp2
    go_ret
    exact ⟨by rw [HE.out]; rfl, hb⟩
  · have HE : Hid (checkE l = 0) := by show checkE l = 0; unfold checkE; rw [hF]; rfl
    clear hF hAt hnd hge
    go_wp2
    go_ret
    exact ⟨by rw [HE.out]; rfl, hb⟩

end Go.Proofs.Ytcjcekaahooamaa
