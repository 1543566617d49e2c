/-
  Buffers: which buffer is meant.
-/
import Derived.Test.YtgbaeajcgiaboaaDoorUNam
import Derived.Laws.Cover1
namespace Go.Proofs.YtgbaeajcgiaboaaDoor
open Go.RowKit
set_option linter.unusedVariables false
set_option maxRecDepth 100000

/-- The place of the one that is meant. -/
def mnt (name : ByteArray) (l : List Kp) : Option Nat :=
  if name.size = 0 then (match l.findIdx? isA with | some i => some i | none => if l.length = 0 then none else some 0) else l.findIdx? (nmd name)
def mntI (name : ByteArray) (l : List Kp) : Int := match mnt name l with | some i => (i : Int) | none => 0
def mntE (name : ByteArray) (l : List Kp) : Int := match mnt name l with | some _ => 0 | none => 240
theorem fidx_some {p : Kp → Bool} {l : List Kp} {i : Nat} (h : l.findIdx? p = some i) : fidx p l = (i : Int) := by unfold fidx; rw [h]
theorem fidx_none {p : Kp → Bool} {l : List Kp} (h : l.findIdx? p = none) : fidx p l = -1 := by unfold fidx; rw [h]
theorem findIdx_lt {p : Kp → Bool} {l : List Kp} {i : Nat} (h : l.findIdx? p = some i) : i < l.length := (List.findIdx?_eq_some_iff_getElem.1 h).1
theorem mnt_lt {name : ByteArray} {l : List Kp} {i : Nat} (h : mnt name l = some i) : i < l.length := by
  unfold mnt at h
  split at h
  · split at h
    · rename_i j hj
      cases h
      exact findIdx_lt hj
    · split at h
      · cases h
      · cases h
        omega
  · exact findIdx_lt h
theorem size_toList {s : ByteArray} : (s.toList = []) ↔ s.size = 0 := by
  rw [Lib.toList_data]
  constructor
  · intro h
    have := congrArg List.length h
    simpa using this
  · intro h
    apply List.eq_nil_of_length_eq_zero
    rw [Array.length_toList]
    exact h
set_option maxHeartbeats 8000000 in
theorem find_any {w : World} {b : Nat} {v : Value} {l : List Kp} {lim c : Int} (h : Bf w b v l lim c) (name : ByteArray) :
    Calls Tryd.prog 25 #[.pointer (some ⟨b, 0, none⟩), .string name] w fun e w' => e = .returned (.tuple #[.int .i64 (mntI name l), .int .i64 (mntE name l)]) ∧ Below w.heap.size w w' := by
  have HP := hidK (place_any h name)
  have HH := hidK h
  have hlen := h.len
  obtain ⟨ad, cp, rfl⟩ := h.slice
  obtain ⟨I, hI⟩ : ∃ I, mntI name l = I := ⟨_, rfl⟩
  obtain ⟨R, hR⟩ : ∃ R, mntE name l = R := ⟨_, rfl⟩
  have HI := hidK hI
  have HR := hidK hR
  rw [hI, hR]
  clear h hI hR
  have eg : ∀ args w, (callFunc 46 args).run Tryd.prog w = .ok (.enter 46 args) w := enters_of Tryd.func46 (by kernel_rfl) rfl
  by_cases hz : name.size = 0
  · have t1 : name.toList = [] := size_toList.2 hz
    have t2 : name.toList.isEmpty = true := by rw [t1]; rfl
    have HM : Hid (mnt name l = (match l.findIdx? isA with | some i => some i | none => if l.length = 0 then none else some 0)) := if_pos hz
    clear hz
    go_enter Tryd.func25, Tryd.ntmps25
    go_wp2_with fail
    refine HP.out.mono ?_
    rintro e w1 ⟨rfl, hb1⟩
    have hB1 := HH.out.below hb1
    have q0 : w1.cell? ⟨b, 0, none⟩ = some (.slice ad l.length cp) := cell_at hB1.hd 0
    have HX := hidK (indexFunc_any hB1.row eg (isAuto_ask w1))
    have HB1 := hidK hb1
    have HBf := hidK hB1
    obtain ⟨x0, hx0⟩ : ∃ x, fidx (nmd name) l = x := ⟨_, rfl⟩
    rw [hx0]
    clear hb1 hB1 hx0
    cases hf : l.findIdx? isA with
    | some i =>
      have hfi := fidx_some hf
      have HV : Hid (I = (i : Int) ∧ R = 0) := by
        rw [← HI.out, ← HR.out]
        unfold mntI mntE
        rw [HM.out, hf]
        exact ⟨rfl, rfl⟩
      rw [hfi] at HX
      have hi0 : (0 : Int) ≤ (i : Int) := by omega
      clear hf hfi
      go_wp2_with (refine HX.out.mono ?_; rintro e w2 ⟨rfl, hb2⟩; have HB2 := hidK (HB1.out.trans (hb2.mono HB1.out.size)); clear hb2)
      go_ret2
      exact ⟨by rw [HV.out.1, HV.out.2]; rfl, HB2.out⟩
    | none =>
      have hfi := fidx_none hf
      rw [hfi] at HX
      by_cases hl : l.length = 0
      · have HV : Hid (I = 0 ∧ R = 240) := by
          rw [← HI.out, ← HR.out]
          unfold mntI mntE
          rw [HM.out, hf]
          simp [hl]; exact hidK trivial
        have hl2 : ¬ (0 : Int) < (l.length : Int) := by omega
        clear hf hfi hl
        go_wp2_with (refine HX.out.mono ?_; rintro e w2 ⟨rfl, hb2⟩; have q1 : w2.cell? ⟨b, 0, none⟩ = some (.slice ad l.length cp) := cell_at (HBf.out.below hb2).hd 0; have HB2 := hidK (HB1.out.trans (hb2.mono HB1.out.size)); clear hb2)
        all_goals go_ret2
        all_goals exact ⟨by rw [HV.out.1, HV.out.2]; rfl, HB2.out⟩
      · have HV : Hid (I = 0 ∧ R = 0) := by
          rw [← HI.out, ← HR.out]
          unfold mntI mntE
          rw [HM.out, hf]
          simp [hl]; exact hidK trivial
        have hl2 : (0 : Int) < (l.length : Int) := by omega
        clear hf hfi hl
        go_wp2_with (refine HX.out.mono ?_; rintro e w2 ⟨rfl, hb2⟩; have q1 : w2.cell? ⟨b, 0, none⟩ = some (.slice ad l.length cp) := cell_at (HBf.out.below hb2).hd 0; have HB2 := hidK (HB1.out.trans (hb2.mono HB1.out.size)); clear hb2)
        all_goals go_ret2
        all_goals exact ⟨by rw [HV.out.1, HV.out.2]; rfl, HB2.out⟩
  · have t1 : ¬ name.toList = [] := fun e => hz (size_toList.1 e)
    have t2 : name.toList.isEmpty = false := by simpa using t1
    have HM : Hid (mnt name l = l.findIdx? (nmd name)) := if_neg hz
    clear hz
    cases hf : l.findIdx? (nmd name) with
    | some i =>
      have hfi := fidx_some hf
      have HV : Hid (I = (i : Int) ∧ R = 0) := by
        rw [← HI.out, ← HR.out]
        unfold mntI mntE
        rw [HM.out, hf]
        exact ⟨rfl, rfl⟩
      rw [hfi] at HP
      have hi0 : (0 : Int) ≤ (i : Int) := by omega
      clear hf hfi
      go_enter Tryd.func25, Tryd.ntmps25
      go_wp2_with (refine HP.out.mono ?_; rintro e w1 ⟨rfl, hb1⟩; have HB1 := hidK hb1; clear hb1)
      go_ret2
      exact ⟨by rw [HV.out.1, HV.out.2]; rfl, HB1.out⟩
    | none =>
      have hfi := fidx_none hf
      have HV : Hid (I = 0 ∧ R = 240) := by
        rw [← HI.out, ← HR.out]
        unfold mntI mntE
        rw [HM.out, hf]
        exact ⟨rfl, rfl⟩
      rw [hfi] at HP
      clear hf hfi
      go_enter Tryd.func25, Tryd.ntmps25
      go_wp2_with (refine HP.out.mono ?_; rintro e w1 ⟨rfl, hb1⟩; have HB1 := hidK hb1; clear hb1)
      all_goals go_ret2
      all_goals exact ⟨by rw [HV.out.1, HV.out.2]; rfl, HB1.out⟩
end Go.Proofs.YtgbaeajcgiaboaaDoor
