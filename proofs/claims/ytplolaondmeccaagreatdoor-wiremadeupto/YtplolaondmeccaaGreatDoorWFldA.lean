/-
  The functions of a number's field, of an id's field.
-/
import Derived.Test.YtplolaondmeccaaGreatDoorWBase
import Derived.WalkKit
namespace Go.Proofs.YtplolaondmeccaaGreatDoor
open Go.RowKit
set_option linter.unusedVariables false

theorem num_put (m : Int) (f : NF) (fn : Nat) (hof : OfOk fn f.off) (B : Nat) (w : World) (bo : Nat) (hboB : B ≤ bo) (hbo : w.cell? ⟨bo, 0, none⟩ = some (.func (.func fn) #[] #[])) :
    PutOk B w 123 #[.pointer (some ⟨bo, 0, none⟩)] (fNum m f).put := by
  intro W b ev hb hE hev hfit
  obtain ⟨ef, hf⟩ := hof
  unfold Enters at ef
  have c1 : W.cell? ⟨bo, 0, none⟩ = some (.func (.func fn) #[] #[]) := (hb.cell (p := ⟨bo, 0, none⟩) hboB (World.block_lt_of_cell? w _ hbo)).trans hbo
  have c2 : W.cell? ⟨b, f.off, none⟩ = some (.int .i64 (f.get ev)) := by rw [hev.cell]; cases f <;> rfl
  have hN : NumV W := hE.num
  obtain ⟨i0, i1⟩ := hfit.num f
  show Calls Tryz.prog 123 #[.pointer (some ⟨b, 0, none⟩), .pointer (some ⟨bo, 0, none⟩)] W _
  show Calls _ _ _ _ fun e w' => e = .returned (.string (str (putL (f.get ev)))) ∧ Below W.heap.size W w'
  clear hbo hev hE hb
  go_enter Tryz.func123, Tryz.ntmps123
  go_wp2_with (first
    | (go_at_fn fn; refine (hf _ _).mono ?_; rintro e w1 ⟨rfl, rfl⟩)
    | (go_at_call 124; refine (putNumber_any _ _ hN i0 i1).mono ?_; rintro e w1 ⟨rfl, hb1⟩))
  go_ret
  exact ⟨rfl, by assumption⟩

/-- Behind a store into an event's number. -/
theorem set_num {W : World} {b : Nat} {ev : Ev} (h : EvAt W b ev) (f : NF) (n : Int) : EvAt (W.setCell ⟨b, f.off, none⟩ (.int .i64 n)) b (f.set n ev) :=
  h.set _ _ (by cases f <;> rfl)

theorem left_num {m n : Int} {f : NF} {l : List UInt8} {ev : Ev} (h : Num l n) : Left ((fNum m f).read l) ev (f.set n ev) (decide (n ≤ m)) := by
  show Left ((numOf l).bind fun n => if n ≤ m then some (f.set n) else none) _ _ _
  rw [numOf_some h]
  show Left (if n ≤ m then some (f.set n) else none) _ _ _
  by_cases hm : n ≤ m
  · rw [if_pos hm]; exact .inl ⟨_, rfl, decide_eq_true hm, rfl⟩
  · rw [if_neg hm]; exact .inr ⟨rfl, decide_eq_false hm⟩
theorem left_num_no {m : Int} {f : NF} {l : List UInt8} {ev ev' : Ev} (h : ∀ n, ¬ Num l n) : Left ((fNum m f).read l) ev ev' false := by
  show Left ((numOf l).bind fun n => if n ≤ m then some (f.set n) else none) _ _ _
  rw [numOf_none h]
  exact .inr ⟨rfl, rfl⟩

theorem num_read (m : Int) (f : NF) (fn : Nat) (hof : OfOk fn f.off) (B : Nat) (w : World) (bo bm : Nat) (hboB : B ≤ bo) (hbo : w.cell? ⟨bo, 0, none⟩ = some (.func (.func fn) #[] #[])) (hbmB : B ≤ bm) (hbm : w.cell? ⟨bm, 0, none⟩ = some (.int .i64 m)) :
    ReadOk B w 125 #[.pointer (some ⟨bo, 0, none⟩), .pointer (some ⟨bm, 0, none⟩)] (fNum m f).read := by
  intro W b ev t hb hE hB hev ht
  obtain ⟨ef, hf⟩ := hof
  unfold Enters at ef
  have hN : NumV W := hE.num
  have l1 : bo < w.heap.size := World.block_lt_of_cell? w _ hbo
  have l2 : bm < w.heap.size := World.block_lt_of_cell? w _ hbm
  have l1' : bo < W.heap.size := Nat.lt_of_lt_of_le l1 hb.size
  have l2' : bm < W.heap.size := Nat.lt_of_lt_of_le l2 hb.size
  have c1 : W.cell? ⟨bo, 0, none⟩ = some (.func (.func fn) #[] #[]) := (hb.cell (p := ⟨bo, 0, none⟩) hboB l1).trans hbo
  have c2 : W.cell? ⟨bm, 0, none⟩ = some (.int .i64 m) := (hb.cell (p := ⟨bm, 0, none⟩) hbmB l2).trans hbm
  have hbl : b < W.heap.size := hev.lt
  have nb : bm ≠ b := by omega
  show Calls Tryz.prog 125 #[.pointer (some ⟨b, 0, none⟩), .string t, .pointer (some ⟨bo, 0, none⟩), .pointer (some ⟨bm, 0, none⟩)] W _
  have HL : Hid (∀ n, Num t.data.toList n → Left ((fNum m f).read t.data.toList) ev (f.set n ev) (decide (n ≤ m))) := fun n h => left_num h
  have HK : Hid (∀ ev', (∀ n, ¬ Num t.data.toList n) → Left ((fNum m f).read t.data.toList) ev ev' false) := fun ev' h => left_num_no h
  obtain ⟨R, hR⟩ : ∃ R, (fNum m f).read t.data.toList = R := ⟨_, rfl⟩
  rw [hR] at HL HK ⊢
  have HV : Hid (EvAt W b ev) := hev
  clear hbo hbm hE hb hR hev hB l1 l2
  go_enter Tryz.func125, Tryz.ntmps125
  go_wp2_with fail
  refine (number_any _ _ hN (by unfold lim at ht; omega)).mono ?_
  rintro e w1 ⟨hcase, hb1⟩
  have d1 := (hb1.cell (p := ⟨bo, 0, none⟩) l1').trans c1
  have d2 := (hb1.cell (p := ⟨bm, 0, none⟩) l2').trans c2
  have HV1 : Hid (EvAt w1 b ev) := HV.out.below hb1 hbl
  have d3 : w1.cell? ⟨b, f.off, none⟩ = some (.int .i64 (f.get ev)) := by rw [HV1.out.cell]; cases f <;> rfl
  have d4 : w1.frozen? ⟨b, f.off, none⟩ = false := HV1.out.free _
  have d5 : ∀ v, (w1.setCell ⟨b, f.off, none⟩ v).cell? ⟨bm, 0, none⟩ = some (.int .i64 m) := fun v => (World.cell?_of_block (w := w1) (Below.heap_setCell _ _ _ _ nb)).trans d2
  have HG : Hid (∀ v, W.grownBy (w1.setCell ⟨b, f.off, none⟩ v) (some b)) := fun v => grownBy_trans (grownBy_of_below hb1 _) (grownBy_setCell _ _ _ _)
  clear hb1 d2 c1 c2 hN
  obtain ⟨n, rfl, hn⟩ | ⟨rfl, hn⟩ := hcase
  · have HN : Hid (Num t.data.toList n) := hn
    clear hn
    go_wp2_with (go_at_fn fn; refine (hf _ _).mono ?_; rintro e w2 ⟨rfl, rfl⟩)
    go_ret
    exact ⟨_, _, rfl, set_num HV1.out f n, HG.out _, HL.out n HN.out⟩
  · have HN : Hid (∀ n, ¬ Num t.data.toList n) := hn
    clear hn
    go_wp2_with (go_at_fn fn; refine (hf _ _).mono ?_; rintro e w2 ⟨rfl, rfl⟩)
    go_ret
    exact ⟨_, _, rfl, set_num HV1.out f 0, HG.out _, HK.out _ HN.out⟩

end Go.Proofs.YtplolaondmeccaaGreatDoor
