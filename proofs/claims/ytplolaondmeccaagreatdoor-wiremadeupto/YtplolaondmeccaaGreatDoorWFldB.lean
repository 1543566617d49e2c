/-
  The functions of an id's field, of names, plans, zoom and colon.
-/
import Derived.Test.YtplolaondmeccaaGreatDoorWFldA
import Derived.WalkKit
import Derived.RegionTactic
import Derived.Deep.RegionWith
import Derived.Deep.DrawnRows
namespace Go.Proofs.YtplolaondmeccaaGreatDoor
open Go.RowKit
set_option linter.unusedVariables false

set_option maxHeartbeats 2000000 in
theorem id_put (c : UInt8) (f : NF) (fn : Nat) (hof : OfOk fn f.off) (B : Nat) (w : World) (bm bo : Nat) (hboB : B ≤ bo) (hbo : w.cell? ⟨bo, 0, none⟩ = some (.func (.func fn) #[] #[])) (hbmB : B ≤ bm) (hbm : w.cell? ⟨bm, 0, none⟩ = some (.int .u8 c.toNat)) :
    PutOk B w 132 #[.pointer (some ⟨bm, 0, none⟩), .pointer (some ⟨bo, 0, none⟩)] (fId c f).put := by
  intro W b ev hb hE hev hfit
  obtain ⟨ef, hf⟩ := hof
  unfold Enters at ef
  have c1 : W.cell? ⟨bo, 0, none⟩ = some (.func (.func fn) #[] #[]) := (hb.cell (p := ⟨bo, 0, none⟩) hboB (World.block_lt_of_cell? w _ hbo)).trans hbo
  have c2 : W.cell? ⟨bm, 0, none⟩ = some (.int .u8 c.toNat) := (hb.cell (p := ⟨bm, 0, none⟩) hbmB (World.block_lt_of_cell? w _ hbm)).trans hbm
  have c3 : W.cell? ⟨b, f.off, none⟩ = some (.int .i64 (f.get ev)) := by rw [hev.cell]; cases f <;> rfl
  have hN : NumV W := hE.num
  obtain ⟨i0, i1⟩ := hfit.num f
  show Calls Tryz.prog 132 #[.pointer (some ⟨b, 0, none⟩), .pointer (some ⟨bm, 0, none⟩), .pointer (some ⟨bo, 0, none⟩)] W _
  show Calls _ _ _ _ fun e w' => e = .returned (.string (str (putI c (f.get ev)))) ∧ Below W.heap.size W w'
  clear hbo hbm hev hE hb
  go_enter Tryz.func132, Tryz.ntmps132
  go_wp2
  go_region_with (first
    | (go_at_fn fn; refine (hf _ _).mono ?_; rintro e w1 ⟨rfl, rfl⟩)
    | (go_at_call 133; refine (putId_any _ _ _ (hN.below (Below.refl _ _).drew) i0 i1).mono ?_; rintro e w1 ⟨rfl, hb1⟩))
  all_goals go_wp2
  all_goals go_ret
  all_goals exact ⟨rfl, (Below.refl _ W).drew.trans ‹_›⟩

theorem left_id {c : UInt8} {n : Int} {f : NF} {l : List UInt8} {ev : Ev} (h : IsId c l n) : Left ((fId c f).read l) ev (f.set n ev) true := by
  show Left ((idOf c l).map f.set) _ _ _
  rw [idOf_some h]
  exact .inl ⟨_, rfl, rfl, rfl⟩
theorem left_id_no {c : UInt8} {f : NF} {l : List UInt8} {ev ev' : Ev} (h : ∀ n, ¬ IsId c l n) : Left ((fId c f).read l) ev ev' false := by
  show Left ((idOf c l).map f.set) _ _ _
  rw [idOf_none h]
  exact .inr ⟨rfl, rfl⟩

theorem id_read (c : UInt8) (f : NF) (fn : Nat) (hof : OfOk fn f.off) (B : Nat) (w : World) (bm bo : Nat) (hboB : B ≤ bo) (hbo : w.cell? ⟨bo, 0, none⟩ = some (.func (.func fn) #[] #[])) (hbmB : B ≤ bm) (hbm : w.cell? ⟨bm, 0, none⟩ = some (.int .u8 c.toNat)) :
    ReadOk B w 134 #[.pointer (some ⟨bm, 0, none⟩), .pointer (some ⟨bo, 0, none⟩)] (fId c f).read := by
  intro W b ev t hb hE hB hev ht
  obtain ⟨ef, hf⟩ := hof
  unfold Enters at ef
  have hN : NumV W := hE.num
  have l1 : bo < w.heap.size := World.block_lt_of_cell? w _ hbo
  have l2 : bm < w.heap.size := World.block_lt_of_cell? w _ hbm
  have l1' : bo < W.heap.size := Nat.lt_of_lt_of_le l1 hb.size
  have c1 : W.cell? ⟨bo, 0, none⟩ = some (.func (.func fn) #[] #[]) := (hb.cell (p := ⟨bo, 0, none⟩) hboB l1).trans hbo
  have c2 : W.cell? ⟨bm, 0, none⟩ = some (.int .u8 c.toNat) := (hb.cell (p := ⟨bm, 0, none⟩) hbmB l2).trans hbm
  have hbl : b < W.heap.size := hev.lt
  show Calls Tryz.prog 134 #[.pointer (some ⟨b, 0, none⟩), .string t, .pointer (some ⟨bm, 0, none⟩), .pointer (some ⟨bo, 0, none⟩)] W _
  have HL : Hid (∀ n, IsId c t.data.toList n → Left ((fId c f).read t.data.toList) ev (f.set n ev) true) := fun n h => left_id h
  have HK : Hid (∀ ev', (∀ n, ¬ IsId c t.data.toList n) → Left ((fId c f).read t.data.toList) ev ev' false) := fun ev' h => left_id_no h
  obtain ⟨R, hR⟩ : ∃ R, (fId c f).read t.data.toList = R := ⟨_, rfl⟩
  rw [hR] at HL HK ⊢
  have HV : Hid (EvAt W b ev) := hev
  clear hbo hbm hE hb hR hev hB l1 l2
  go_enter Tryz.func134, Tryz.ntmps134
  go_wp2_with fail
  refine (id_any _ _ _ hN (by unfold lim at ht; omega)).mono ?_
  rintro e w1 ⟨hcase, hb1⟩
  have d1 := (hb1.cell (p := ⟨bo, 0, none⟩) l1').trans c1
  have HV1 : Hid (EvAt w1 b ev) := HV.out.below hb1 hbl
  have d3 : w1.cell? ⟨b, f.off, none⟩ = some (.int .i64 (f.get ev)) := by rw [HV1.out.cell]; cases f <;> rfl
  have d4 : w1.frozen? ⟨b, f.off, none⟩ = false := HV1.out.free _
  have HG : Hid (∀ v, W.grownBy (w1.setCell ⟨b, f.off, none⟩ v) (some b)) := fun v => grownBy_trans (grownBy_of_below hb1 _) (grownBy_setCell _ _ _ _)
  clear hb1 c1 c2 hN
  obtain ⟨n, rfl, hn⟩ | ⟨rfl, hn⟩ := hcase
  · have HN : Hid (IsId c t.data.toList n) := hn
    clear hn
    go_wp2_with (go_at_fn fn; refine (hf _ _).mono ?_; rintro e w2 ⟨rfl, rfl⟩)
    go_ret
    exact ⟨_, _, rfl, set_num HV1.out f n, HG.out _, HL.out n HN.out⟩
  · have HN : Hid (∀ n, ¬ IsId c t.data.toList n) := hn
    clear hn
    go_wp2_with (go_at_fn fn; refine (hf _ _).mono ?_; rintro e w2 ⟨rfl, rfl⟩)
    go_ret
    exact ⟨_, _, rfl, set_num HV1.out f 0, HG.out _, HK.out _ HN.out⟩

/-- strings.Clone. -/
theorem clone_any (s : ByteArray) (w : World) (hs : s.size ≤ lim) : Calls Tryz.prog 32 #[.string s] w fun e w' => e = .returned (.string s) ∧ Below w.heap.size w w' := by
  have h2 : s.size ≤ 281474976710656 := by unfold lim at hs; omega
  clear hs
  go_enter Tryz.func32, Tryz.ntmps32
  go_wp2_with (go_at_call 62; refine (Tryz.stringslite_Clone _ _ h2).mono ?_; rintro e w1 ⟨rfl, hb1⟩)
  go_ret
  exact ⟨rfl, by assumption⟩

/-- A test of a text. -/
def TestOk (fn : Nat) (p : List UInt8 → Bool) : Prop := Enters fn ∧ ∀ (s : ByteArray) (W : World), s.size ≤ lim → Calls Tryz.prog fn #[.string s] W fun e w' => e = .returned (.bool (p s.data.toList)) ∧ W = w'
theorem test_name : TestOk 93 (fun l => nameB (str l)) :=
  ⟨enters_of Tryz.func93 (by kernel_rfl) rfl, fun s W hs => (isName_any s W (by unfold lim at hs; unfold maxLen; omega)).mono fun _ _ ⟨h1, h2⟩ => ⟨h1, h2.symm⟩⟩
theorem test_word : TestOk 101 (fun l => nameB (str l) && !has (str l) 32) :=
  ⟨enters_of Tryz.func101 (by kernel_rfl) rfl, fun s W hs => (isWord_any s W (by unfold lim at hs; unfold maxLen; omega)).mono fun _ _ ⟨h1, h2⟩ => ⟨h1, h2.symm⟩⟩

/-- What a name's field reads. -/
def fNamed (p : List UInt8 → Bool) : FSpec where
  put e := e.name.data.toList
  read l := if p l then some (fun e => { e with name := str l }) else none
  ends := ⟨#[97]⟩

theorem named_put (p : List UInt8 → Bool) (B : Nat) (w : World) : PutOk B w 136 #[] (fNamed p).put := by
  intro W b ev hb hE hev hfit
  have c1 : W.cell? ⟨b, 9, none⟩ = some (.string ev.name) := by rw [hev.cell]; rfl
  show Calls Tryz.prog 136 #[.pointer (some ⟨b, 0, none⟩)] W _
  show Calls _ _ _ _ fun e w' => e = .returned (.string ev.name) ∧ Below W.heap.size W w'
  clear hev hb
  go_enter Tryz.func136, Tryz.ntmps136
  go_wp2
  go_ret
  exact ⟨rfl, Below.refl _ _⟩

theorem named_read (p : List UInt8 → Bool) (fn : Nat) (hof : TestOk fn p) (B : Nat) (w : World) (bi : Nat) (hbiB : B ≤ bi) (hbi : w.cell? ⟨bi, 0, none⟩ = some (.func (.func fn) #[] #[])) :
    ReadOk B w 137 #[.pointer (some ⟨bi, 0, none⟩)] (fNamed p).read := by
  intro W b ev t hb hE hB hev ht
  obtain ⟨ef, hf⟩ := hof
  unfold Enters at ef
  have l1 : bi < w.heap.size := World.block_lt_of_cell? w _ hbi
  have l1' : bi < W.heap.size := Nat.lt_of_lt_of_le l1 hb.size
  have nb : bi ≠ b := by omega
  have c1 : W.cell? ⟨bi, 0, none⟩ = some (.func (.func fn) #[] #[]) := (hb.cell (p := ⟨bi, 0, none⟩) hbiB l1).trans hbi
  have hbl : b < W.heap.size := hev.lt
  show Calls Tryz.prog 137 #[.pointer (some ⟨b, 0, none⟩), .string t, .pointer (some ⟨bi, 0, none⟩)] W _
  have HL : Hid (Left ((fNamed p).read t.data.toList) ev { ev with name := t } (p t.data.toList)) := by
    show Left (if p t.data.toList then _ else none) _ _ _
    cases hp : p t.data.toList
    · exact .inr ⟨rfl, rfl⟩
    · exact .inl ⟨_, rfl, rfl, rfl⟩
  obtain ⟨R, hR⟩ : ∃ R, (fNamed p).read t.data.toList = R := ⟨_, rfl⟩
  obtain ⟨q, hq⟩ : ∃ q, p t.data.toList = q := ⟨_, rfl⟩
  have hf' := fun W => hf t W ht
  rw [hR, hq] at HL
  rw [hR]
  simp only [hq] at hf'
  have HV : Hid (EvAt W b ev) := hev
  clear hbi hb hR hev hB l1 hf hq
  go_enter Tryz.func137, Tryz.ntmps137
  go_wp2_with fail
  refine (clone_any _ _ ht).mono ?_
  rintro e w1 ⟨rfl, hb1⟩
  have d1 := (hb1.cell (p := ⟨bi, 0, none⟩) l1').trans c1
  have HV1 : Hid (EvAt w1 b ev) := HV.out.below hb1 hbl
  have d3 : w1.cell? ⟨b, 9, none⟩ = some (.string ev.name) := by rw [HV1.out.cell]; rfl
  have d4 : w1.frozen? ⟨b, 9, none⟩ = false := HV1.out.free _
  have d5 : ∀ v, (w1.setCell ⟨b, 9, none⟩ v).cell? ⟨bi, 0, none⟩ = some (.func (.func fn) #[] #[]) := fun v => (World.cell?_of_block (w := w1) (Below.heap_setCell _ _ _ _ nb)).trans d1
  have HG : Hid (∀ v, W.grownBy (w1.setCell ⟨b, 9, none⟩ v) (some b)) := fun v => grownBy_trans (grownBy_of_below hb1 _) (grownBy_setCell _ _ _ _)
  clear hb1 c1 d1
  go_wp2_with (go_at_fn fn; refine (hf' _).mono ?_; rintro e w2 ⟨rfl, rfl⟩)
  go_ret
  exact ⟨_, _, rfl, HV1.out.set _ _ rfl, HG.out _, HL.out⟩

theorem colon_put (B : Nat) (w : World) : PutOk B w 102 #[] fColon.put := by
  intro W b ev hb hE hev hfit
  show Calls Tryz.prog 102 #[.pointer (some ⟨b, 0, none⟩)] W _
  show Calls _ _ _ _ fun e w' => e = .returned (.string ⟨#[58]⟩) ∧ Below W.heap.size W w'
  clear hev hb
  go_enter Tryz.func102, Tryz.ntmps102
  go_wp2
  go_ret
  exact ⟨rfl, Below.refl _ _⟩

theorem eq_list (t : ByteArray) (l : List UInt8) : (t.toList == l) = decide (t.data.toList = l) := by
  rw [Lib.toList_data, Bool.eq_iff_iff]; simp

theorem colon_read (B : Nat) (w : World) : ReadOk B w 103 #[] fColon.read := by
  intro W b ev t hb hE hB hev ht
  show Calls Tryz.prog 103 #[.pointer (some ⟨b, 0, none⟩), .string t] W _
  have HL : Hid (Left (fColon.read t.data.toList) ev ev (t.toList == [58])) := by
    rw [eq_list]
    show Left (if _ then _ else none) _ _ _
    by_cases h : t.data.toList = [58]
    · rw [if_pos h]; exact .inl ⟨_, rfl, decide_eq_true h, rfl⟩
    · rw [if_neg h]; exact .inr ⟨rfl, decide_eq_false h⟩
  obtain ⟨R, hR⟩ : ∃ R, fColon.read t.data.toList = R := ⟨_, rfl⟩
  rw [hR] at HL ⊢
  have HV : Hid (EvAt W b ev) := hev
  clear hev hb hR
  go_enter Tryz.func103, Tryz.ntmps103
  go_wp2
  go_ret
  exact ⟨_, _, rfl, HV.out, grownBy_refl _ _, HL.out⟩

end Go.Proofs.YtplolaondmeccaaGreatDoor
