/-
  The document's Decode: lines of answers.
  The document's Decode: lines that begin with a percent sign.
  The document's Decode: the things of a row, read one behind the other.
  The document's Decode, for every line; its Class; the walks of WireDecodes and WireClasses.
-/
import Derived.Test.YtplolaondmeccaaGreatDoorRRoE
import Derived.Test.YtplolaondmeccaaGreatDoorRRea
import Derived.Test.YtplolaondmeccaaGreatDoorWSure
import Derived.RegionTactic
import Derived.Deep.RegionWith
import Derived.Deep.DrawnRows
import Derived.Deep.RegionHeld3
import Derived.LoopTactic
namespace Go.Proofs.YtplolaondmeccaaGreatDoor
open Go.RowKit
set_option linter.unusedVariables false
set_option maxRecDepth 20000

theorem kind_body {l : List UInt8} (h : ¬ [37] <+: l) : kindS l = 4 := if_neg h
theorem dec_body_yes {l t : List UInt8} (h : ¬ [37] <+: l) (ht : escB t = l) : decS l = { Ev.zero 4 with text := str t } := by
  have hr : readS 4 l = some { Ev.zero 4 with text := str t } := by
    have h1 : readS 4 l = (fBody.read l).bind fun g => some (g (Ev.zero 4)) := by
      unfold readS
      rw [if_pos (show headOf 4 <+: l from List.nil_prefix)]
      rfl
    have h2 : fBody.read l = some (fun e => { e with text := str t }) := by show (unescB l).map _ = _; rw [unescB_some ht]; rfl
    rw [h1, h2]
    rfl
  unfold decS
  rw [kind_body h, if_neg (by decide), hr]
  rfl
theorem dec_body_no {l : List UInt8} (h : ¬ [37] <+: l) (ht : ∀ t, escB t ≠ l) : decS l = badEv l := by
  rcases enc_dec l with h1 | ⟨h1, _⟩
  · exact h1
  · have hd := dec_enc h1
    unfold decS at hd ⊢
    rw [kind_body h, if_neg (by decide)] at hd ⊢
    cases hr : readS 4 l with
    | none => rfl
    | some e =>
      obtain ⟨t, ht', _⟩ := readS_body hr
      exact absurd ht' (ht t)

theorem not_sign (s : ByteArray) (h : s.size = 0 ∨ ∃ h0 : 0 < s.size, s[0] ≠ 37) : ¬ [37] <+: s.data.toList := by
  rintro ⟨r, hr⟩
  rcases h with h | ⟨h0, h1⟩
  · have := congrArg List.length hr
    rw [size_data, h] at this
    simp at this
  · rw [head_cons0 s h0] at hr
    exact h1 (List.cons.inj hr).1.symm
theorem is_sign (s : ByteArray) (h0 : 0 < s.size) (h1 : s[0] = 37) : [37] <+: s.data.toList := ⟨(s.extract 1 s.size).data.toList, by rw [head_cons0 s h0, h1]; rfl⟩

set_option maxHeartbeats 1000000 in
theorem refDec_body (s : ByteArray) (hs : s.size ≤ 1048576) (h : s.size = 0 ∨ ∃ h0 : 0 < s.size, s[0] ≠ 37) (w : World) :
    Calls Tryz.prog 33 #[.string s] w fun e w' => e = .returned (.agg (decS s.data.toList).vals) ∧ Below w.heap.size w w' := by
  have hns := not_sign s h
  have HY : Hid (∀ t, escB t = s.data.toList → decS s.data.toList = { Ev.zero 4 with text := str t }) := fun t ht => dec_body_yes hns ht
  have HN : Hid ((∀ t, escB t ≠ s.data.toList) → decS s.data.toList = { Ev.zero 25 with text := s }) := fun ht => dec_body_no hns ht
  have HC : Hid (∀ W, Calls Tryz.prog 63 #[.string s] W fun e w' => ((∃ t, e = .returned (.tuple #[.string (str t), .int .i64 0]) ∧ escB t = s.data.toList) ∨ (e = .returned (.tuple #[.string ⟨#[]⟩, .int .i64 10]) ∧ ∀ t, escB t ≠ s.data.toList)) ∧ Below W.heap.size W w') := fun W => refUnescapeBody_any s W (by omega)
  have HV : Hid (EvAt (w.alloc (.cells (Ev.zero 0).vals 27)) w.heap.size (Ev.zero 0)) := EvAt.new w (Ev.zero 0)
  obtain ⟨d, hd⟩ : ∃ d, decS s.data.toList = d := ⟨_, rfl⟩
  rw [hd] at HY HN ⊢
  clear hd hns
  unfold Ev.vals Ev.zero at HV
  rcases h with h0 | ⟨h0, h1⟩
  · have he := empty_of0 s h0
    go_enter Tryz.func33, Tryz.ntmps33
    go_wp2_with fail
    refine (HC.out _).mono ?_
    rintro e w1 ⟨hor, hb1⟩
    have HV1 := HV.out.below hb1 HV.out.lt
    obtain ⟨r0, r1, r2, r3, r4, r5, r6, r7, r8, r9, r10, r11, r12, r13⟩ := HV1.zcells
    obtain ⟨g0, g1, g2, g3, g4, g5, g6, g7, g8, g9, g10, g11, g12, g13⟩ := HV1.frees
    have HB : Hid (Below w.heap.size w w1) := below_step (below1 _ _) hb1
    clear hb1 HV1 HV
    rcases hor with ⟨t, rfl, ht⟩ | ⟨rfl, ht⟩
    · have HD := HY.out t ht
      have HDv : Hid (d.vals = #[.int .i64 4, .int .i64 0, .int .i64 0, .int .i64 0, .int .i64 0, .int .i64 0, .int .i64 0, .int .i64 0, .int .i64 0, .string ⟨#[]⟩, .string (str t), .string ⟨#[]⟩, .string ⟨#[]⟩, .bool false]) := by rw [HD]; rfl
      clear HD ht HY HN
      go_wp2
      refine bodyPost_ret (v := .agg #[.int .i64 4, .int .i64 0, .int .i64 0, .int .i64 0, .int .i64 0, .int .i64 0, .int .i64 0, .int .i64 0, .int .i64 0, .string ⟨#[]⟩, .string (str t), .string ⟨#[]⟩, .string ⟨#[]⟩, .bool false]) (by simp [results, Tryz.results33, go_sem, r0, r1, r2, r3, r4, r5, r6, r7, r8, r9, r10, r11, r12, r13]) rfl ?_
      rw [HDv.out]
      exact ⟨rfl, below14 HB.out (Nat.le_refl _) _ _ _ _ _ _ _ _ _ _ _ _ _ _⟩
    · have HD := HN.out ht
      have HDv : Hid (d.vals = #[.int .i64 25, .int .i64 0, .int .i64 0, .int .i64 0, .int .i64 0, .int .i64 0, .int .i64 0, .int .i64 0, .int .i64 0, .string ⟨#[]⟩, .string s, .string ⟨#[]⟩, .string ⟨#[]⟩, .bool false]) := by rw [HD]; rfl
      clear HD ht HY HN
      go_wp2
      refine bodyPost_ret (v := .agg #[.int .i64 25, .int .i64 0, .int .i64 0, .int .i64 0, .int .i64 0, .int .i64 0, .int .i64 0, .int .i64 0, .int .i64 0, .string ⟨#[]⟩, .string s, .string ⟨#[]⟩, .string ⟨#[]⟩, .bool false]) (by simp [results, Tryz.results33, go_sem, r0, r1, r2, r3, r4, r5, r6, r7, r8, r9, r10, r11, r12, r13]) rfl ?_
      rw [HDv.out]
      exact ⟨rfl, below14 HB.out (Nat.le_refl _) _ _ _ _ _ _ _ _ _ _ _ _ _ _⟩
  · obtain ⟨hne, hne'⟩ := toList_ne0 h0
    have hc : ((s[0].toNat : Int) != 37) = true := by
      rw [bne_iff_ne]
      intro e
      exact h1 (UInt8.toNat_inj.1 (by show s[0].toNat = 37; omega))
    clear h1
    go_enter Tryz.func33, Tryz.ntmps33
    go_wp2_with fail
    refine (HC.out _).mono ?_
    rintro e w1 ⟨hor, hb1⟩
    have HV1 := HV.out.below hb1 HV.out.lt
    obtain ⟨r0, r1, r2, r3, r4, r5, r6, r7, r8, r9, r10, r11, r12, r13⟩ := HV1.zcells
    obtain ⟨g0, g1, g2, g3, g4, g5, g6, g7, g8, g9, g10, g11, g12, g13⟩ := HV1.frees
    have HB : Hid (Below w.heap.size w w1) := below_step (below1 _ _) hb1
    clear hb1 HV1 HV
    rcases hor with ⟨t, rfl, ht⟩ | ⟨rfl, ht⟩
    · have HD := HY.out t ht
      have HDv : Hid (d.vals = #[.int .i64 4, .int .i64 0, .int .i64 0, .int .i64 0, .int .i64 0, .int .i64 0, .int .i64 0, .int .i64 0, .int .i64 0, .string ⟨#[]⟩, .string (str t), .string ⟨#[]⟩, .string ⟨#[]⟩, .bool false]) := by rw [HD]; rfl
      clear HD ht HY HN
      go_wp2
      refine bodyPost_ret (v := .agg #[.int .i64 4, .int .i64 0, .int .i64 0, .int .i64 0, .int .i64 0, .int .i64 0, .int .i64 0, .int .i64 0, .int .i64 0, .string ⟨#[]⟩, .string (str t), .string ⟨#[]⟩, .string ⟨#[]⟩, .bool false]) (by simp [results, Tryz.results33, go_sem, r0, r1, r2, r3, r4, r5, r6, r7, r8, r9, r10, r11, r12, r13]) rfl ?_
      rw [HDv.out]
      exact ⟨rfl, below14 HB.out (Nat.le_refl _) _ _ _ _ _ _ _ _ _ _ _ _ _ _⟩
    · have HD := HN.out ht
      have HDv : Hid (d.vals = #[.int .i64 25, .int .i64 0, .int .i64 0, .int .i64 0, .int .i64 0, .int .i64 0, .int .i64 0, .int .i64 0, .int .i64 0, .string ⟨#[]⟩, .string s, .string ⟨#[]⟩, .string ⟨#[]⟩, .bool false]) := by rw [HD]; rfl
      clear HD ht HY HN
      go_wp2
      refine bodyPost_ret (v := .agg #[.int .i64 25, .int .i64 0, .int .i64 0, .int .i64 0, .int .i64 0, .int .i64 0, .int .i64 0, .int .i64 0, .int .i64 0, .string ⟨#[]⟩, .string s, .string ⟨#[]⟩, .string ⟨#[]⟩, .bool false]) (by simp [results, Tryz.results33, go_sem, r0, r1, r2, r3, r4, r5, r6, r7, r8, r9, r10, r11, r12, r13]) rfl ?_
      rw [HDv.out]
      exact ⟨rfl, below14 HB.out (Nat.le_refl _) _ _ _ _ _ _ _ _ _ _ _ _ _ _⟩

end Go.Proofs.YtplolaondmeccaaGreatDoor

namespace Go.Proofs.YtplolaondmeccaaGreatDoor
open Go.RowKit
set_option linter.unusedVariables false
set_option maxRecDepth 20000

/-- What Decode has: its answer's block, the table. -/
structure DecSt (w wr : World) (b : Nat) : Prop where
  r : EvAt wr w.heap.size (Ev.zero 0)
  t : TabAt wr b
  lt : b < wr.heap.size
  bel : Below w.heap.size w wr
theorem DecSt.below {w wr wr' : World} {b : Nat} (h : DecSt w wr b) (hb : Below wr.heap.size wr wr') : DecSt w wr' b := ⟨h.r.below hb h.r.lt, h.t.below hb h.lt, Nat.lt_of_lt_of_le h.lt hb.size, below_step h.bel hb⟩
theorem DecSt.drew {w wr : World} {b : Nat} (h : DecSt w wr b) : DecSt w wr.drew b := ⟨h.r, h.t, h.lt, h.bel.drew⟩

/-- And the event that is being read. -/
structure InSt (w wr : World) (b be : Nat) (ev : Ev) : Prop where
  d : DecSt w wr b
  e : EvAt wr be ev
  g : w.heap.size < be ∧ b < be
theorem InSt.below {w wr wr' : World} {b be : Nat} {ev : Ev} (h : InSt w wr b be ev) (hb : Below wr.heap.size wr wr') : InSt w wr' b be ev := ⟨h.d.below hb, h.e.below hb h.e.lt, h.g⟩
theorem InSt.drew {w wr : World} {b be : Nat} {ev : Ev} (h : InSt w wr b be ev) : InSt w wr.drew b be ev := ⟨h.d.drew, h.e, h.g⟩
theorem InSt.set {w wr : World} {b be : Nat} {ev : Ev} (h : InSt w wr b be ev) (o : Nat) (v : Value) (ev' : Ev) (hv : ev.vals.setIfInBounds o v = ev'.vals) : InSt w (wr.setCell ⟨be, o, none⟩ v) b be ev' := by
  have hg := grownBy_setCell wr be o v
  have h1 := h.g.1
  have h2 := h.g.2
  refine ⟨⟨h.d.r.grown hg (by simp only [ne_eq, Option.some.injEq]; omega), fun i hi => ?_, by simpa [World.setCell] using h.d.lt, h.d.bel.setCell (show w.heap.size ≤ be by omega) _⟩, h.e.set o v hv, h.g⟩
  have hk : ∀ o', (wr.setCell ⟨be, o, none⟩ v).cell? ⟨b, o', none⟩ = wr.cell? ⟨b, o', none⟩ := fun o' => World.cell?_of_block (w := wr) (hg.block b h.d.lt (by simp only [ne_eq, Option.some.injEq]; omega))
  obtain ⟨a1, a2, a3⟩ := h.d.t i hi
  exact ⟨(hk _).trans a1, (hk _).trans a2, (hk _).trans a3⟩
theorem InSt.set14 {w wr : World} {b be : Nat} {ev : Ev} (h : InSt w wr b be ev) (x : Ev) : InSt w ((((((((((((((wr.setCell ⟨be, 0, none⟩ (.int .i64 x.kind)).setCell ⟨be, 1, none⟩ (.int .i64 x.session)).setCell ⟨be, 2, none⟩ (.int .i64 x.window)).setCell ⟨be, 3, none⟩ (.int .i64 x.pane)).setCell ⟨be, 4, none⟩ (.int .i64 x.index)).setCell ⟨be, 5, none⟩ (.int .i64 x.offset)).setCell ⟨be, 6, none⟩ (.int .i64 x.tick)).setCell ⟨be, 7, none⟩ (.int .i64 x.number)).setCell ⟨be, 8, none⟩ (.int .i64 x.flag)).setCell ⟨be, 9, none⟩ (.string x.name)).setCell ⟨be, 10, none⟩ (.string x.text)).setCell ⟨be, 11, none⟩ (.string x.layout)).setCell ⟨be, 12, none⟩ (.string x.visible)).setCell ⟨be, 13, none⟩ (.bool x.zoom)) b be x :=
  ((((((((((((((h).set 0 (.int .i64 x.kind) ⟨x.kind, ev.session, ev.window, ev.pane, ev.index, ev.offset, ev.tick, ev.number, ev.flag, ev.name, ev.text, ev.layout, ev.visible, ev.zoom⟩ rfl).set 1 (.int .i64 x.session) ⟨x.kind, x.session, ev.window, ev.pane, ev.index, ev.offset, ev.tick, ev.number, ev.flag, ev.name, ev.text, ev.layout, ev.visible, ev.zoom⟩ rfl).set 2 (.int .i64 x.window) ⟨x.kind, x.session, x.window, ev.pane, ev.index, ev.offset, ev.tick, ev.number, ev.flag, ev.name, ev.text, ev.layout, ev.visible, ev.zoom⟩ rfl).set 3 (.int .i64 x.pane) ⟨x.kind, x.session, x.window, x.pane, ev.index, ev.offset, ev.tick, ev.number, ev.flag, ev.name, ev.text, ev.layout, ev.visible, ev.zoom⟩ rfl).set 4 (.int .i64 x.index) ⟨x.kind, x.session, x.window, x.pane, x.index, ev.offset, ev.tick, ev.number, ev.flag, ev.name, ev.text, ev.layout, ev.visible, ev.zoom⟩ rfl).set 5 (.int .i64 x.offset) ⟨x.kind, x.session, x.window, x.pane, x.index, x.offset, ev.tick, ev.number, ev.flag, ev.name, ev.text, ev.layout, ev.visible, ev.zoom⟩ rfl).set 6 (.int .i64 x.tick) ⟨x.kind, x.session, x.window, x.pane, x.index, x.offset, x.tick, ev.number, ev.flag, ev.name, ev.text, ev.layout, ev.visible, ev.zoom⟩ rfl).set 7 (.int .i64 x.number) ⟨x.kind, x.session, x.window, x.pane, x.index, x.offset, x.tick, x.number, ev.flag, ev.name, ev.text, ev.layout, ev.visible, ev.zoom⟩ rfl).set 8 (.int .i64 x.flag) ⟨x.kind, x.session, x.window, x.pane, x.index, x.offset, x.tick, x.number, x.flag, ev.name, ev.text, ev.layout, ev.visible, ev.zoom⟩ rfl).set 9 (.string x.name) ⟨x.kind, x.session, x.window, x.pane, x.index, x.offset, x.tick, x.number, x.flag, x.name, ev.text, ev.layout, ev.visible, ev.zoom⟩ rfl).set 10 (.string x.text) ⟨x.kind, x.session, x.window, x.pane, x.index, x.offset, x.tick, x.number, x.flag, x.name, x.text, ev.layout, ev.visible, ev.zoom⟩ rfl).set 11 (.string x.layout) ⟨x.kind, x.session, x.window, x.pane, x.index, x.offset, x.tick, x.number, x.flag, x.name, x.text, x.layout, ev.visible, ev.zoom⟩ rfl).set 12 (.string x.visible) ⟨x.kind, x.session, x.window, x.pane, x.index, x.offset, x.tick, x.number, x.flag, x.name, x.text, x.layout, x.visible, ev.zoom⟩ rfl).set 13 (.bool x.zoom) ⟨x.kind, x.session, x.window, x.pane, x.index, x.offset, x.tick, x.number, x.flag, x.name, x.text, x.layout, x.visible, x.zoom⟩ rfl

theorem rdAll_more {cs : List Ch} {m : Nat} {c : Ch} {lf : List UInt8} {e : Ev} (hc : cs[m]? = some c) (hm : m + 1 < cs.length) : rdAll (cs.drop m) lf e = rdAll (cs.drop (m + 1)) (behind lf) (c.rd (before lf) e) := by
  obtain ⟨hi, hv⟩ := List.getElem?_eq_some_iff.1 hc
  rw [List.drop_eq_getElem_cons hi, hv, List.drop_eq_getElem_cons hm]
  rfl
theorem rdAll_last {cs : List Ch} {m : Nat} {c : Ch} {lf : List UInt8} {e : Ev} (hc : cs[m]? = some c) (hm : ¬ m + 1 < cs.length) : rdAll (cs.drop m) lf e = rdAll (cs.drop (m + 1)) lf (c.rd lf e) := by
  obtain ⟨hi, hv⟩ := List.getElem?_eq_some_iff.1 hc
  rw [List.drop_eq_getElem_cons hi, hv, List.drop_of_length_le (show cs.length ≤ m + 1 by omega)]
  rfl

end Go.Proofs.YtplolaondmeccaaGreatDoor

namespace Go.Proofs.YtplolaondmeccaaGreatDoor
open Go.RowKit
set_option linter.unusedVariables false
set_option maxRecDepth 20000

theorem chs_nc (k : Nat) : ∀ c ∈ chs k, c ≠ .qc := by
  unfold chs
  split <;> decide
theorem chs_len (k : Nat) : (chs k).length ≤ 6 := by
  unfold chs
  split <;> decide

set_option maxHeartbeats 4000000 in
theorem refDec_sign (s : ByteArray) (hs : s.size ≤ 1048576) (h0 : 0 < s.size) (h1 : s[0] = 37) (w : World) :
    Calls Tryz.prog 33 #[.string s] w fun e w' => e = .returned (.agg (decS s.data.toList).vals) ∧ Below w.heap.size w w' := by
  have hc : ((s[0].toNat : Int) != 37) = false := by rw [h1]; rfl
  have HP := is_sign s h0 h1
  obtain ⟨hne, hne'⟩ := toList_ne0 h0
  obtain ⟨L, hL⟩ : ∃ L, s.data.toList = L := ⟨_, rfl⟩
  have HsL : Hid (s = str L) := by show _ = _; rw [← hL]; rfl
  have HLl : Hid (L.length ≤ 1048576) := by show _ ≤ _; rw [← hL, size_data]; exact hs
  have hcut := refCut_any s (by omega)
  rw [hL] at HP hcut ⊢
  have HCut : Hid (∀ W, Calls Tryz.prog 64 #[.string s] W (CutPost L W)) := hcut
  have HYes : Hid (∀ ev, encS ev = some L → decS L = ev) := fun ev h => dec_enc h
  have HNo : Hid ((∀ j, j < 23 → wordOf (kAt j) = before L → encS (rdAll (chs (kAt j)) (behind L) (Ev.zero (kAt j : Nat))) ≠ some L) → decS L = { Ev.zero 25 with text := s }) := fun h => by
    rcases Classical.em (decS L = badEv L) with hb | hb
    · rw [hb, HsL.out]; rfl
    · obtain ⟨i, h2, h3, h4⟩ := dec_found L HP hb
      exact absurd h4 (h i h2 h3)
  have HV : Hid (EvAt (w.alloc (.cells (Ev.zero 0).vals 27)) w.heap.size (Ev.zero 0)) := EvAt.new w (Ev.zero 0)
  obtain ⟨d, hd⟩ : ∃ d, decS L = d := ⟨_, rfl⟩
  rw [hd] at HYes HNo ⊢
  clear h1 hd hL HP hcut
  unfold Ev.vals Ev.zero at HV
  go_enter Tryz.func33, Tryz.ntmps33
  go_wp2_with fail
  refine (HCut.out _).mono ?_
  rintro e w1 ⟨⟨b0, rfl⟩, hb1⟩
  have HV1 : Hid (EvAt w1 w.heap.size (Ev.zero 0)) := HV.out.below hb1 HV.out.lt
  have HB1 : Hid (Below w.heap.size w w1) := below_step (below1 _ _) hb1
  obtain ⟨wd0, hwd0⟩ : ∃ x, str (before L) = x := ⟨_, rfl⟩
  obtain ⟨rs0, hrs0⟩ : ∃ x, str (behind L) = x := ⟨_, rfl⟩
  have HW0 : Hid (str (before L) = wd0) := hwd0
  have HR0 : Hid (str (behind L) = rs0) := hrs0
  rw [hwd0, hrs0]
  clear hb1 HV hwd0 hrs0
  go_wp2_with fail
  refine (rows_any _).mono ?_
  rintro e w2 ⟨rfl, ht2, hl2, hb2⟩
  obtain ⟨b, hb⟩ : ∃ b, w1.heap.size = b := ⟨_, rfl⟩
  have HS : Hid (DecSt w w2 b) := ⟨HV1.out.below hb2 HV1.out.lt, hb ▸ ht2, hb ▸ hl2, below_step HB1.out hb2⟩
  have HG : Hid (w.heap.size < b) := hb ▸ HV1.out.lt
  rw [hb]
  clear hb ht2 hl2 hb2 HV1 HB1
  go_wp2
  go_loopw [9] (fun i wr => ∃ n : Nat, n ≤ 23 ∧ i = .int .i64 n ∧ Hid (∀ j, j < n → wordOf (kAt j) = before L → encS (rdAll (chs (kAt j)) (behind L) (Ev.zero (kAt j : Nat))) ≠ some L) ∧ DecSt w wr b) (fun i _ => 23 - (intOf i).toNat)
  case atStart => exact ⟨0, Nat.zero_le _, rfl, (fun j h => absurd h (Nat.not_lt_zero j)), HS.out⟩
  case round =>
    obtain ⟨n, hn, rfl, HN, hst⟩ := hrel
    have HS2 : Hid (DecSt w wr b) := hst
    clear hst HS
    by_cases hlt : n < 23
    · obtain ⟨t0, t1, t2⟩ := HS2.out.t n hlt
      obtain ⟨kn, hkn⟩ : ∃ k, kAt n = k := ⟨_, rfl⟩
      have HKn : Hid (kAt n = kn) := hkn
      have HWd : Hid (str (wordOf (kAt n)) = str (wordOf kn)) := by rw [hkn]; exact rfl
      obtain ⟨wd, hwd⟩ : ∃ x, str (wordOf (kAt n)) = x := ⟨_, rfl⟩
      obtain ⟨pt, hpt⟩ : ∃ x, partsOf (chs (kAt n)) = x := ⟨_, rfl⟩
      have HWn : Hid (str (wordOf (kAt n)) = wd) := hwd
      have HPn : Hid (partsOf (chs (kAt n)) = pt) := hpt
      rw [hwd] at t1
      rw [hpt] at t2
      rw [hkn] at t0
      clear hwd hpt hkn HWd
      by_cases hw : (wd.toList == wd0.toList) = true
      · have hw' : (wd.toList != wd0.toList) = false := by rw [bne, hw]; rfl
        have hltI : (n : Int) < 23 := by omega
        have HAl : Hid (InSt w (wr.alloc (.cells (Ev.zero (kn : Nat)).vals 27)) b wr.heap.size (Ev.zero (kn : Nat))) := ⟨HS2.out.below (below1 _ _), EvAt.new _ _, HS2.out.r.lt, HS2.out.lt⟩
        obtain ⟨cs, hcs⟩ : ∃ x, chs (kAt n) = x := ⟨_, rfl⟩
        have HCs : Hid (chs (kAt n) = cs) := hcs
        have HRw : Hid (∀ j, j = n → wordOf (kAt j) = before L → encS (rdAll (chs (kAt j)) (behind L) (Ev.zero (kAt j : Nat))) = encS (rdAll cs (behind L) (Ev.zero (kn : Nat)))) := fun j hj _ => by subst hj; rw [HCs.out, HKn.out]
        have hsz : pt.size = cs.length := by rw [← HPn.out, HCs.out, partsOf_size]
        have hnc : ∀ c ∈ cs, c ≠ .qc := by rw [← HCs.out]; exact chs_nc (kAt n)
        have hcl : cs.length ≤ 6 := by rw [← HCs.out]; exact chs_len (kAt n)
        have HI : Hid (∀ (k : Nat) (c : Ch), cs[k]? = some c → ∀ W : World, (Instr.index 9 (.string pt) (.int .i64 (k : Int))).run Tryz.prog W = .ok (.int .u8 (c.byte.toNat : Int)) W) := by
          have := index_part cs
          rw [← HCs.out, HPn.out, HCs.out] at this
          exact this
        have HRe : Hid (∀ c ∈ cs, ∀ (ev : Ev) (x : ByteArray), x.size ≤ 1048576 → ∀ W, Calls Tryz.prog 65 #[.agg ev.vals, .int .u8 (c.byte.toNat : Int), .string x] W fun e w' => e = .returned (.agg (c.rd x.data.toList ev).vals) ∧ Below W.heap.size W w') := fun c hc ev x hx W => reads_any c (hnc c hc) ev x hx W
        obtain ⟨m, hm⟩ : ∃ m, cs.length = m := ⟨_, rfl⟩
        have HM : Hid (cs.length = m) := hm
        obtain ⟨be, hbe⟩ : ∃ x, wr.heap.size = x := ⟨_, rfl⟩
        have HBe : Hid (wr.heap.size = be) := hbe
        rw [hm] at hsz hcl
        clear hcs hnc hm
        go_wp2
        rw [hbe] at HAl
        clear hbe
        unfold Ev.vals Ev.zero at HAl
        go_loopw [11, 12] (fun lf k wq => ∃ (i : Nat) (l : List UInt8) (ev : Ev), i ≤ m ∧ k = .int .i64 i ∧ lf = .string (str l) ∧ l.length ≤ 1048576 ∧ ev.Fits ∧ Hid (rdAll cs (behind L) (Ev.zero (kn : Nat)) = rdAll (cs.drop i) l ev) ∧ InSt w wq b be ev) (fun _ k _ => m - (intOf k).toNat)
        case atStart => exact ⟨0, behind L, Ev.zero (kn : Nat), Nat.zero_le _, rfl, by rw [HR0.out], Nat.le_trans (behind_len L) HLl.out, fits_zero _, rfl, HAl.out⟩
        case round =>
          obtain ⟨i, l, ev, hi, rfl, rfl, hll, hfit, HRd, hin⟩ := hrel
          have HIn : Hid (InSt w wr b be ev) := hin
          obtain ⟨_, _, p2⟩ := HIn.out.d.t n hlt
          rw [HPn.out] at p2
          obtain ⟨q0, q1, q2, q3, q4, q5, q6, q7, q8, q9, q10, q11, q12, q13⟩ := HIn.out.e.cells
          obtain ⟨E0, hE0⟩ : ∃ x, str l = x := ⟨_, rfl⟩
          have HE0 : Hid (str l = E0) := hE0
          have hEs : E0.size ≤ 1048576 := by rw [← hE0, str_size]; exact hll
          rw [hE0]
          clear hin hE0 t0 t1 t2 HS2
          by_cases him : i < m
          · obtain ⟨c, hc⟩ : ∃ c, cs[i]? = some c := ⟨_, List.getElem?_eq_getElem (by rw [HM.out]; exact him)⟩
            have HC : Hid (cs[i]? = some c) := hc
            have HX := HI.out i c hc
            have hmem : c ∈ cs := List.mem_of_getElem? hc
            have HFt : Hid ev.Fits := hfit
            by_cases hl2 : (i : Int) < (m : Int) - 1
            · obtain ⟨B0, hB0⟩ : ∃ x, str (before l) = x := ⟨_, rfl⟩
              obtain ⟨H0, hH0⟩ : ∃ x, str (behind l) = x := ⟨_, rfl⟩
              obtain ⟨nv, hnv⟩ : ∃ x, c.rd (before l) ev = x := ⟨_, rfl⟩
              have HCl : Hid (∀ W, Calls Tryz.prog 64 #[.string E0] W fun e w' => (∃ b, e = .returned (.tuple #[.string B0, .string H0, .bool b])) ∧ Below W.heap.size W w') := fun W => by
                have := refCut_any E0 (by omega) W
                rw [← HE0.out, str_data] at this
                rw [← hB0, ← hH0, ← HE0.out]
                exact this
              have hBs : B0.size ≤ 1048576 := by rw [← hB0, str_size]; exact Nat.le_trans (before_len l) hll
              have HRc : Hid (∀ W, Calls Tryz.prog 65 #[.agg #[.int .i64 ev.kind, .int .i64 ev.session, .int .i64 ev.window, .int .i64 ev.pane, .int .i64 ev.index, .int .i64 ev.offset, .int .i64 ev.tick, .int .i64 ev.number, .int .i64 ev.flag, .string ev.name, .string ev.text, .string ev.layout, .string ev.visible, .bool ev.zoom], .int .u8 (c.byte.toNat : Int), .string B0] W fun e w' => e = .returned (.agg #[.int .i64 nv.kind, .int .i64 nv.session, .int .i64 nv.window, .int .i64 nv.pane, .int .i64 nv.index, .int .i64 nv.offset, .int .i64 nv.tick, .int .i64 nv.number, .int .i64 nv.flag, .string nv.name, .string nv.text, .string nv.layout, .string nv.visible, .bool nv.zoom]) ∧ Below W.heap.size W w') := fun W => by
                have := HRe.out c hmem ev B0 hBs W
                rw [← hB0, str_data, hnv, hB0] at this
                exact this
              have HNx : Hid (rdAll cs (behind L) (Ev.zero (kn : Nat)) = rdAll (cs.drop (i + 1)) (behind l) nv) := by
                show _ = _
                rw [HRd.out, rdAll_more HC.out (by rw [HM.out]; omega), hnv]
              have HNf : Hid nv.Fits := by
                show nv.Fits
                rw [← hnv]
                exact rd_fits c _ (by have := before_len l; unfold slim; omega) ev hfit
              have HNl : Hid ((behind l).length ≤ 1048576) := Nat.le_trans (behind_len l) hll
              have HH0 : Hid (str (behind l) = H0) := hH0
              clear hB0 hH0 hnv hc HRe HI HRd hfit hll HCut HYes HNo hmem
              go_wp2_with fail
              refine (HCl.out _).mono ?_
              rintro e w3 ⟨⟨b3, rfl⟩, hb3⟩
              have HIn3 : Hid (InSt w w3 b be ev) := HIn.out.below hb3
              have HIn3d : Hid (InSt w w3.drew b be ev) := HIn3.out.drew
              obtain ⟨y0, y1, y2, y3, y4, y5, y6, y7, y8, y9, y10, y11, y12, y13⟩ := HIn3.out.e.cells
              obtain ⟨_, _, y14⟩ := HIn3.out.d.t n hlt
              rw [HPn.out] at y14
              clear hb3 q0 q1 q2 q3 q4 q5 q6 q7 q8 q9 q10 q11 q12 q13 p2
              go_wp2_with fail
              go_region_with ((go_at_call 65; refine (HRc.out _).mono ?_; rintro e w4 ⟨rfl, hb4⟩; have HIn4 : Hid (InSt w w4 b be ev) := HIn3d.out.below hb4; obtain ⟨x0, x1, x2, x3, x4, x5, x6, x7, x8, x9, x10, x11, x12, x13⟩ := HIn4.out.e.cells; obtain ⟨_, _, x14⟩ := HIn4.out.d.t n hlt; rw [HPn.out] at x14; obtain ⟨f0, f1, f2, f3, f4, f5, f6, f7, f8, f9, f10, f11, f12, f13⟩ := HIn4.out.e.frees; clear hb4))
              all_goals
                go_wp2
                exact ⟨⟨i + 1, behind l, nv, by omega, by go_num, by rw [HH0.out], HNl.out, HNf.out, HNx, HIn4.out.set14 nv⟩, by simp [intOf]; omega⟩
            · obtain ⟨nv, hnv⟩ : ∃ x, c.rd l ev = x := ⟨_, rfl⟩
              have HRc : Hid (∀ W, Calls Tryz.prog 65 #[.agg #[.int .i64 ev.kind, .int .i64 ev.session, .int .i64 ev.window, .int .i64 ev.pane, .int .i64 ev.index, .int .i64 ev.offset, .int .i64 ev.tick, .int .i64 ev.number, .int .i64 ev.flag, .string ev.name, .string ev.text, .string ev.layout, .string ev.visible, .bool ev.zoom], .int .u8 (c.byte.toNat : Int), .string E0] W fun e w' => e = .returned (.agg #[.int .i64 nv.kind, .int .i64 nv.session, .int .i64 nv.window, .int .i64 nv.pane, .int .i64 nv.index, .int .i64 nv.offset, .int .i64 nv.tick, .int .i64 nv.number, .int .i64 nv.flag, .string nv.name, .string nv.text, .string nv.layout, .string nv.visible, .bool nv.zoom]) ∧ Below W.heap.size W w') := fun W => by
                have := HRe.out c hmem ev E0 hEs W
                rw [← HE0.out, str_data, hnv, HE0.out] at this
                exact this
              have HNx : Hid (rdAll cs (behind L) (Ev.zero (kn : Nat)) = rdAll (cs.drop (i + 1)) l nv) := by
                show _ = _
                rw [HRd.out, rdAll_last HC.out (by rw [HM.out]; omega), hnv]
              have HNf : Hid nv.Fits := by
                show nv.Fits
                rw [← hnv]
                exact rd_fits c _ (by unfold slim; omega) ev hfit
              have HNl : Hid (l.length ≤ 1048576) := hll
              have HIn3d : Hid (InSt w wr.drew b be ev) := HIn.out.drew
              clear hnv hc HRe HI HRd hfit hll HCut HYes HNo hmem
              go_wp2_with fail
              go_region_with ((go_at_call 65; refine (HRc.out _).mono ?_; rintro e w4 ⟨rfl, hb4⟩; have HIn4 : Hid (InSt w w4 b be ev) := HIn3d.out.below hb4; obtain ⟨x0, x1, x2, x3, x4, x5, x6, x7, x8, x9, x10, x11, x12, x13⟩ := HIn4.out.e.cells; obtain ⟨_, _, x14⟩ := HIn4.out.d.t n hlt; rw [HPn.out] at x14; obtain ⟨f0, f1, f2, f3, f4, f5, f6, f7, f8, f9, f10, f11, f12, f13⟩ := HIn4.out.e.frees; clear hb4))
              all_goals
                go_wp2
                exact ⟨⟨i + 1, l, nv, by omega, by go_num, by rw [HE0.out], HNl.out, HNf.out, HNx, HIn4.out.set14 nv⟩, by simp [intOf]; omega⟩
          · have HEv : Hid (rdAll cs (behind L) (Ev.zero (kn : Nat)) = ev) := by
              show _ = _
              rw [HRd.out, List.drop_of_length_le (by rw [HM.out]; omega)]
              rfl
            have HEn := refEncode_any ev hfit
            obtain ⟨r0, r1, r2, r3, r4, r5, r6, r7, r8, r9, r10, r11, r12, r13⟩ := HIn.out.d.r.zcells
            obtain ⟨g0, g1, g2, g3, g4, g5, g6, g7, g8, g9, g10, g11, g12, g13⟩ := HIn.out.d.r.frees
            clear HRe HI HRd hfit hll HCut
            cases henc : encS ev with
            | none =>
              have HEc : Hid (∀ W, Calls Tryz.prog 66 #[.agg #[.int .i64 ev.kind, .int .i64 ev.session, .int .i64 ev.window, .int .i64 ev.pane, .int .i64 ev.index, .int .i64 ev.offset, .int .i64 ev.tick, .int .i64 ev.number, .int .i64 ev.flag, .string ev.name, .string ev.text, .string ev.layout, .string ev.visible, .bool ev.zoom]] W fun e w' => e = .returned (.tuple #[.string ⟨#[]⟩, .int .i64 30]) ∧ Below W.heap.size W w') := fun W => by
                have := HEn W
                rw [henc] at this
                exact this
              have HN' : Hid (∀ j, j < n + 1 → wordOf (kAt j) = before L → encS (rdAll (chs (kAt j)) (behind L) (Ev.zero (kAt j : Nat))) ≠ some L) := fun j hj hwj => by
                by_cases hjn : j = n
                · rw [HRw.out j hjn hwj, HEv.out, henc]
                  exact fun h => by cases h
                · exact HN.out j (by omega) hwj
              clear henc HEn HNo HYes HN r0 r1 r2 r3 r4 r5 r6 r7 r8 r9 r10 r11 r12 r13 g0 g1 g2 g3 g4 g5 g6 g7 g8 g9 g10 g11 g12 g13
              go_wp2_with fail
              refine (HEc.out _).mono ?_
              rintro e w5 ⟨rfl, hb5⟩
              have HD5 : Hid (DecSt w w5 b) := HIn.out.d.below hb5
              clear hb5 q0 q1 q2 q3 q4 q5 q6 q7 q8 q9 q10 q11 q12 q13 p2
              go_wp2
              exact ⟨⟨n + 1, by omega, by go_num, HN', HD5.out⟩, by simp [intOf]; omega⟩
            | some l5 =>
              have HEc : Hid (∀ W, Calls Tryz.prog 66 #[.agg #[.int .i64 ev.kind, .int .i64 ev.session, .int .i64 ev.window, .int .i64 ev.pane, .int .i64 ev.index, .int .i64 ev.offset, .int .i64 ev.tick, .int .i64 ev.number, .int .i64 ev.flag, .string ev.name, .string ev.text, .string ev.layout, .string ev.visible, .bool ev.zoom]] W fun e w' => e = .returned (.tuple #[.string (str l5), .int .i64 0]) ∧ Below W.heap.size W w') := fun W => by
                have := HEn W
                rw [henc] at this
                exact this
              clear r0 r1 r2 r3 r4 r5 r6 r7 r8 r9 r10 r11 r12 r13 g0 g1 g2 g3 g4 g5 g6 g7 g8 g9 g10 g11 g12 g13
              by_cases hsl : ((str l5).toList == s.toList) = true
              · have hl5 : l5 = L := by
                  have h5 := ba_eq hsl
                  rw [HsL.out] at h5
                  have h6 := congrArg (fun x => x.data.toList) h5
                  simpa [str_data] using h6
                have HD := HYes.out ev (hl5 ▸ henc)
                have HDv : Hid (d.vals = #[.int .i64 ev.kind, .int .i64 ev.session, .int .i64 ev.window, .int .i64 ev.pane, .int .i64 ev.index, .int .i64 ev.offset, .int .i64 ev.tick, .int .i64 ev.number, .int .i64 ev.flag, .string ev.name, .string ev.text, .string ev.layout, .string ev.visible, .bool ev.zoom]) := by rw [HD]; rfl
                obtain ⟨S5, hS5⟩ : ∃ x, str l5 = x := ⟨_, rfl⟩
                rw [hS5] at HEc hsl
                clear hS5 hl5 HD henc HEn HNo HYes HN
                go_wp2_with fail
                refine (HEc.out _).mono ?_
                rintro e w5 ⟨rfl, hb5⟩
                have HIn5 : Hid (InSt w w5 b be ev) := HIn.out.below hb5
                clear hb5 q0 q1 q2 q3 q4 q5 q6 q7 q8 q9 q10 q11 q12 q13 p2
                obtain ⟨q0, q1, q2, q3, q4, q5, q6, q7, q8, q9, q10, q11, q12, q13⟩ := HIn5.out.e.cells
                obtain ⟨r0, r1, r2, r3, r4, r5, r6, r7, r8, r9, r10, r11, r12, r13⟩ := HIn5.out.d.r.zcells
                obtain ⟨g0, g1, g2, g3, g4, g5, g6, g7, g8, g9, g10, g11, g12, g13⟩ := HIn5.out.d.r.frees
                go_wp2
                refine bodyPost_ret (v := .agg #[.int .i64 ev.kind, .int .i64 ev.session, .int .i64 ev.window, .int .i64 ev.pane, .int .i64 ev.index, .int .i64 ev.offset, .int .i64 ev.tick, .int .i64 ev.number, .int .i64 ev.flag, .string ev.name, .string ev.text, .string ev.layout, .string ev.visible, .bool ev.zoom]) (by simp [results, Tryz.results33, go_sem, r0, r1, r2, r3, r4, r5, r6, r7, r8, r9, r10, r11, r12, r13]) rfl ?_
                rw [HDv.out]
                exact ⟨rfl, below14 HIn5.out.d.bel (Nat.le_refl _) _ _ _ _ _ _ _ _ _ _ _ _ _ _⟩
              · have hsl' : ((str l5).toList == s.toList) = false := by simpa using hsl
                have HN' : Hid (∀ j, j < n + 1 → wordOf (kAt j) = before L → encS (rdAll (chs (kAt j)) (behind L) (Ev.zero (kAt j : Nat))) ≠ some L) := fun j hj hwj => by
                  by_cases hjn : j = n
                  · rw [HRw.out j hjn hwj, HEv.out, henc]
                    intro h
                    cases h
                    rw [← HsL.out] at hsl
                    exact hsl (by simp)
                  · exact HN.out j (by omega) hwj
                obtain ⟨S5, hS5⟩ : ∃ x, str l5 = x := ⟨_, rfl⟩
                rw [hS5] at HEc hsl'
                clear hsl hS5 henc HEn HNo HYes HN
                go_wp2_with fail
                refine (HEc.out _).mono ?_
                rintro e w5 ⟨rfl, hb5⟩
                have HD5 : Hid (DecSt w w5 b) := HIn.out.d.below hb5
                clear hb5 q0 q1 q2 q3 q4 q5 q6 q7 q8 q9 q10 q11 q12 q13 p2
                go_wp2
                exact ⟨⟨n + 1, by omega, by go_num, HN', HD5.out⟩, by simp [intOf]; omega⟩
      · have hw' : (wd.toList == wd0.toList) = false := by simpa using hw
        have HN' : Hid (∀ j, j < n + 1 → wordOf (kAt j) = before L → encS (rdAll (chs (kAt j)) (behind L) (Ev.zero (kAt j : Nat))) ≠ some L) := fun j hj => by
          by_cases hjn : j = n
          · subst hjn
            intro e1
            exfalso
            rw [← HWn.out, ← HW0.out, e1] at hw'
            simp at hw'
          · exact HN.out j (by omega)
        clear hw HN
        go_wp2
        go_roundw
        case rel => exact ⟨n + 1, by omega, by go_num, HN', HS2.out⟩
        case measure => simp [intOf]; omega
    · have HD := HNo.out (fun j hj => HN.out j (by omega))
      have HDv : Hid (d.vals = #[.int .i64 25, .int .i64 0, .int .i64 0, .int .i64 0, .int .i64 0, .int .i64 0, .int .i64 0, .int .i64 0, .int .i64 0, .string ⟨#[]⟩, .string s, .string ⟨#[]⟩, .string ⟨#[]⟩, .bool false]) := by rw [HD]; rfl
      obtain ⟨r0, r1, r2, r3, r4, r5, r6, r7, r8, r9, r10, r11, r12, r13⟩ := HS2.out.r.zcells
      obtain ⟨g0, g1, g2, g3, g4, g5, g6, g7, g8, g9, g10, g11, g12, g13⟩ := HS2.out.r.frees
      clear HD HNo HN HYes
      go_wp2
      refine bodyPost_ret (v := .agg #[.int .i64 25, .int .i64 0, .int .i64 0, .int .i64 0, .int .i64 0, .int .i64 0, .int .i64 0, .int .i64 0, .int .i64 0, .string ⟨#[]⟩, .string s, .string ⟨#[]⟩, .string ⟨#[]⟩, .bool false]) (by simp [results, Tryz.results33, go_sem, r0, r1, r2, r3, r4, r5, r6, r7, r8, r9, r10, r11, r12, r13]) rfl ?_
      rw [HDv.out]
      exact ⟨rfl, below14 HS2.out.bel (Nat.le_refl _) _ _ _ _ _ _ _ _ _ _ _ _ _ _⟩

end Go.Proofs.YtplolaondmeccaaGreatDoor

namespace Go.Proofs.YtplolaondmeccaaGreatDoor
open Go.RowKit
set_option linter.unusedVariables false
set_option maxRecDepth 20000

theorem refDecode_any (s : ByteArray) (hs : s.size ≤ 1048576) (w : World) :
    Calls Tryz.prog 33 #[.string s] w fun e w' => e = .returned (.agg (decS s.data.toList).vals) ∧ Below w.heap.size w w' := by
  by_cases h0 : s.size = 0
  · exact refDec_body s hs (.inl h0) w
  · by_cases h1 : s[0]'(by omega) = 37
    · exact refDec_sign s hs (by omega) h1 w
    · exact refDec_body s hs (.inr ⟨by omega, h1⟩) w

/-- The document's Class. -/
theorem refClass_any (s : ByteArray) (hs : s.size ≤ 1048576) (w : World) :
    Calls Tryz.prog 22 #[.string s] w fun e w' => e = .returned (.int .i64 (classK (decS s.data.toList).kind)) ∧ Below w.heap.size w w' := by
  obtain ⟨ev, hev⟩ : ∃ x, decS s.data.toList = x := ⟨_, rfl⟩
  have HR : Hid (∀ W, Calls Tryz.prog 33 #[.string s] W fun e w' => e = .returned (.agg ev.vals) ∧ Below W.heap.size W w') := fun W => by
    have := refDecode_any s hs W
    rw [hev] at this
    exact this
  have hk := run_kind ev
  rw [hev]
  clear hev
  go_enter Tryz.func22, Tryz.ntmps22
  go_wp2_with (go_at_call 33; refine (HR.out _).mono ?_; rintro e w1 ⟨rfl, hb1⟩)
  all_goals go_ret
  all_goals
    refine ⟨ret_int ?_, hb1⟩
    clear HR hk
    simp only [beq_iff_eq, beq_eq_false_iff_ne, ne_eq] at *
    unfold classK
    repeat' split
    all_goals omega

theorem exit_line : encS (Ev.zero 24) = some [37, 101, 120, 105, 116] := by
  have hw : writeS 24 (Ev.zero 24) = [37, 101, 120, 105, 116] := by
    unfold writeS
    rw [show fieldsOf 24 = [fReason] from rfl, List.map_cons, List.map_nil, show joinW [fReason.put (Ev.zero 24)] = fReason.put (Ev.zero 24) by simp [joinW, List.intercalate]]
    rfl
  have hr : readS 24 [37, 101, 120, 105, 116] = some (Ev.zero 24) := by
    unfold readS
    rw [if_pos ⟨[], rfl⟩]
    rfl
  unfold encS
  rw [show (Ev.zero 24).kind.toNat = 24 from rfl, hw, if_pos ⟨by decide, by decide, hr⟩]
theorem exit_class : classK (decS (⟨#[37, 101, 120, 105, 116]⟩ : ByteArray).data.toList).kind = 5 := by
  have h : decS (⟨#[37, 101, 120, 105, 116]⟩ : ByteArray).data.toList = Ev.zero 24 := dec_enc exit_line
  rw [h]
  decide

end Go.Proofs.YtplolaondmeccaaGreatDoor
