/-
  The functions of a plan's field, of zoom.
-/
import Derived.Test.YtplolaondmeccaaGreatDoorWFldB
import Derived.WalkKit
import Derived.Shelf.Strings.SlTrimAscii
namespace Go.Proofs.YtplolaondmeccaaGreatDoor
open Go.RowKit
set_option linter.unusedVariables false

theorem plan_put (f : PF) (fn : Nat) (hof : OfOk fn f.off) (B : Nat) (w : World) (bo : Nat) (hboB : B ≤ bo) (hbo : w.cell? ⟨bo, 0, none⟩ = some (.func (.func fn) #[] #[])) :
    PutOk B w 140 #[.pointer (some ⟨bo, 0, none⟩)] (fPlan f).put := by
  intro W b ev hb hE hev hfit
  obtain ⟨ef, hf⟩ := hof
  unfold Enters at ef
  have c1 : W.cell? ⟨bo, 0, none⟩ = some (.func (.func fn) #[] #[]) := (hb.cell (p := ⟨bo, 0, none⟩) hboB (World.block_lt_of_cell? w _ hbo)).trans hbo
  have c2 : W.cell? ⟨b, f.off, none⟩ = some (.string (f.get ev)) := by rw [hev.cell]; cases f <;> rfl
  show Calls Tryz.prog 140 #[.pointer (some ⟨b, 0, none⟩), .pointer (some ⟨bo, 0, none⟩)] W _
  show Calls _ _ _ _ fun e w' => e = .returned (.string (f.get ev)) ∧ Below W.heap.size W w'
  clear hbo hev hb
  go_enter Tryz.func140, Tryz.ntmps140
  go_wp2_with (go_at_fn fn; refine (hf _ _).mono ?_; rintro e w1 ⟨rfl, rfl⟩)
  go_ret
  exact ⟨rfl, Below.refl _ _⟩

theorem trimPlan_any (s : ByteArray) (w : World) : Calls Tryz.prog 142 #[.string s, .string ⟨#[48, 49, 50, 51, 52, 53, 54, 55, 56, 57, 97, 98, 99, 100, 101, 102, 120, 44, 123, 125, 91, 93]⟩] w fun e w' =>
    e = .returned (.string (str (Lib.trimLeftS s.data.toList planSet))) ∧ Below w.heap.size w w' :=
  Any.strings_TrimLeft_laid Tryz.lays161 (by kernel_rfl) s ⟨#[48, 49, 50, 51, 52, 53, 54, 55, 56, 57, 97, 98, 99, 100, 101, 102, 120, 44, 123, 125, 91, 93]⟩ w (by decide) (ascii_of_all (by decide))

theorem left_plan {f : PF} {t : ByteArray} {ev : Ev} : Left ((fPlan f).read t.data.toList) ev (f.set t ev) (planOk t.data.toList) := by
  show Left (if planOk t.data.toList then _ else none) _ _ _
  cases hp : planOk t.data.toList
  · exact .inr ⟨rfl, rfl⟩
  · exact .inl ⟨_, rfl, rfl, rfl⟩

theorem set_plan {W : World} {b : Nat} {ev : Ev} (h : EvAt W b ev) (f : PF) (t : ByteArray) : EvAt (W.setCell ⟨b, f.off, none⟩ (.string t)) b (f.set t ev) :=
  h.set _ _ (by cases f <;> rfl)

theorem plan_read (f : PF) (fn : Nat) (hof : OfOk fn f.off) (B : Nat) (w : World) (bo : Nat) (hboB : B ≤ bo) (hbo : w.cell? ⟨bo, 0, none⟩ = some (.func (.func fn) #[] #[])) :
    ReadOk B w 141 #[.pointer (some ⟨bo, 0, none⟩)] (fPlan f).read := by
  intro W b ev t hb hE hB hev ht
  obtain ⟨ef, hf⟩ := hof
  unfold Enters at ef
  have l1 : bo < w.heap.size := World.block_lt_of_cell? w _ hbo
  have c1 : W.cell? ⟨bo, 0, none⟩ = some (.func (.func fn) #[] #[]) := (hb.cell (p := ⟨bo, 0, none⟩) hboB l1).trans hbo
  have hbl : b < W.heap.size := hev.lt
  show Calls Tryz.prog 141 #[.pointer (some ⟨b, 0, none⟩), .string t, .pointer (some ⟨bo, 0, none⟩)] W _
  have HL : Hid (Left ((fPlan f).read t.data.toList) ev (f.set t ev) (planOk t.data.toList)) := left_plan
  obtain ⟨R, hR⟩ : ∃ R, (fPlan f).read t.data.toList = R := ⟨_, rfl⟩
  rw [hR] at HL ⊢
  have HV : Hid (EvAt W b ev) := hev
  clear hbo hb hR hev hB l1
  have HP : Hid (planOk t.data.toList = (!t.data.toList.isEmpty && (decide (t.data.toList.length ≤ 2048) && (Lib.trimLeftS t.data.toList planSet).isEmpty))) := rfl
  go_enter Tryz.func141, Tryz.ntmps141
  go_wp2_with (go_at_fn fn; refine (hf _ _).mono ?_; rintro e w1 ⟨rfl, rfl⟩)
  refine (clone_any _ _ ht).mono ?_
  rintro e w1 ⟨rfl, hb1⟩
  have HV1 : Hid (EvAt w1 b ev) := HV.out.below hb1 hbl
  have d3 : w1.cell? ⟨b, f.off, none⟩ = some (.string (f.get ev)) := by rw [HV1.out.cell]; cases f <;> rfl
  have d4 : w1.frozen? ⟨b, f.off, none⟩ = false := HV1.out.free _
  have HG : Hid (W.grownBy (w1.setCell ⟨b, f.off, none⟩ (.string t)) (some b)) := grownBy_trans (grownBy_of_below hb1 _) (grownBy_setCell _ _ _ _)
  have HV2 : Hid (EvAt (w1.setCell ⟨b, f.off, none⟩ (.string t)) b (f.set t ev)) := set_plan HV1.out f t
  clear hb1 c1 HV1 HV
  by_cases h0 : t.size = 0
  · have he := empty_of0 t h0
    have HQ : Hid (planOk t.data.toList = false) := by show _ = _; rw [HP.out, ← Lib.toList_data, he]; rfl
    clear HP
    go_wp2
    go_ret
    first | exact ⟨_, _, rfl, HV2.out, HG.out, HQ.out ▸ HL.out⟩ | exact ⟨_, .inl ⟨rfl, HV2.out, HG.out, HQ.out ▸ HL.out⟩⟩
  · obtain ⟨hne, hne'⟩ := toList_ne0 (s := t) (by omega)
    have HP1 : Hid (planOk t.data.toList = (decide (t.size ≤ 2048) && (Lib.trimLeftS t.data.toList planSet).isEmpty)) := by
      show _ = _
      rw [HP.out, ← Lib.toList_data, hne', Lib.toList_data, size_data]; rfl
    clear HP
    by_cases h1 : t.size ≤ 2048
    · have HP2 : Hid (planOk t.data.toList = (Lib.trimLeftS t.data.toList planSet).isEmpty) := by show _ = _; rw [HP1.out, decide_eq_true h1]; rfl
      clear HP1
      go_wp2_with (go_at_call 142; refine (trimPlan_any _ _).mono ?_; rintro e w2 ⟨rfl, hb2⟩)
      go_ret
      have hb2 : Below (w1.setCell ⟨b, f.off, none⟩ (.string t)).heap.size (w1.setCell ⟨b, f.off, none⟩ (.string t)) _ := ‹_›
      refine ⟨_, _, rfl, HV2.out.below hb2 HV2.out.lt, grownBy_trans HG.out (grownBy_of_below hb2 _), ?_⟩
      have := HL.out
      rw [HP2.out] at this
      rw [str_toList]
      exact this
    · have HQ : Hid (planOk t.data.toList = false) := by show _ = _; rw [HP1.out, decide_eq_false h1]; rfl
      clear HP1
      go_wp2
      go_ret
      first | exact ⟨_, _, rfl, HV2.out, HG.out, HQ.out ▸ HL.out⟩ | exact ⟨_, .inl ⟨rfl, HV2.out, HG.out, HQ.out ▸ HL.out⟩⟩

theorem zoom_put (B : Nat) (w : World) : PutOk B w 97 #[] fZoom.put := by
  intro W b ev hb hE hev hfit
  have c1 : W.cell? ⟨b, 13, none⟩ = some (.bool ev.zoom) := by rw [hev.cell]; rfl
  show Calls Tryz.prog 97 #[.pointer (some ⟨b, 0, none⟩)] W _
  show Calls _ _ _ _ fun e w' => e = .returned (.string (str (if ev.zoom then [90] else [45]))) ∧ Below W.heap.size W w'
  clear hev hb
  cases hz : ev.zoom
  all_goals
    rw [hz] at c1
    go_enter Tryz.func97, Tryz.ntmps97
    go_wp2
    go_ret
    exact ⟨rfl, Below.refl _ _⟩

theorem zoom_read (B : Nat) (w : World) : ReadOk B w 98 #[] fZoom.read := by
  intro W b ev t hb hE hB hev ht
  show Calls Tryz.prog 98 #[.pointer (some ⟨b, 0, none⟩), .string t] W _
  have c1 : W.cell? ⟨b, 13, none⟩ = some (.bool ev.zoom) := by rw [hev.cell]; rfl
  have c2 : W.frozen? ⟨b, 13, none⟩ = false := hev.free _
  have HV : Hid (∀ z, EvAt (W.setCell ⟨b, 13, none⟩ (.bool z)) b { ev with zoom := z }) := fun z => hev.set _ _ rfl
  have HG : Hid (∀ v, W.grownBy (W.setCell ⟨b, 13, none⟩ v) (some b)) := fun v => grownBy_setCell _ _ _ _
  have e1 := eq_list t [90]
  have e2 := eq_list t [45]
  have hbl : b < W.heap.size := hev.lt
  clear hb hev
  by_cases h : t.data.toList = [90]
  · have HL : Hid (fZoom.read t.data.toList = some (fun e => { e with zoom := true })) := if_pos h
    rw [decide_eq_true h] at e1
    clear e2 h
    go_enter Tryz.func98, Tryz.ntmps98
    go_wp2
    go_ret
    exact ⟨_, _, rfl, HV.out true, HG.out _, .inl ⟨_, HL.out, rfl, rfl⟩⟩
  · rw [decide_eq_false h] at e1
    by_cases h' : t.data.toList = [45]
    · have HL : Hid (fZoom.read t.data.toList = some (fun e => { e with zoom := false })) := (if_neg h).trans (if_pos h')
      rw [decide_eq_true h'] at e2
      clear h h'
      go_enter Tryz.func98, Tryz.ntmps98
      go_wp2
      go_ret
      exact ⟨_, _, rfl, HV.out false, HG.out _, .inl ⟨_, HL.out, rfl, rfl⟩⟩
    · have HL : Hid (fZoom.read t.data.toList = none) := (if_neg h).trans (if_neg h')
      rw [decide_eq_false h'] at e2
      clear h h'
      go_enter Tryz.func98, Tryz.ntmps98
      go_wp2
      go_ret
      exact ⟨_, _, rfl, HV.out false, HG.out _, .inr ⟨HL.out, rfl⟩⟩

end Go.Proofs.YtplolaondmeccaaGreatDoor
