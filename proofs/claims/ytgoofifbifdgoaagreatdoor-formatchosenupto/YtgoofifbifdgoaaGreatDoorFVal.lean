/-
  Formats: the expander; the value of a variable; identifiers; short forms.
-/
import Derived.Test.YtgoofifbifdgoaaGreatDoorFMap
import Derived.Test.YtgoofifbifdgoaaGreatDoorFCut
import Derived.Test.YtgoofifbifdgoaaGreatDoorShelf
import Derived.Deep.RegionHeld3
namespace Go.Proofs.YtgoofifbifdgoaaGreatDoor
open Go.RowKit
set_option linter.unusedVariables false
set_option maxRecDepth 20000

/-- Variables that can be read. -/
def VarsIn (w : World) (v : Value) (vs : Vars) : Prop := ∃ ad cap, v = .slice ad vs.length cap ∧ vs.length ≤ 8796093022208 ∧ ∀ (i : Nat) (p : List UInt8 × List UInt8), vs[i]? = some p → ∃ g o, ad = some ⟨g, o, none⟩ ∧ g < w.heap.size ∧ w.cell? ⟨g, o + i * 2, none⟩ = some (.string (str p.1)) ∧ w.cell? ⟨g, o + i * 2 + 1, none⟩ = some (.string (str p.2))
theorem VarsIn.below {w w' : World} {v : Value} {vs : Vars} (h : VarsIn w v vs) (hb : Below w.heap.size w w') : VarsIn w' v vs := by
  obtain ⟨ad, cap, rfl, h1, h2⟩ := h
  refine ⟨ad, cap, rfl, h1, fun i p hp => ?_⟩
  obtain ⟨g, o, rfl, hg, h3, h4⟩ := h2 i p hp
  exact ⟨g, o, rfl, Nat.lt_of_lt_of_le hg hb.size, (hb.cell (p := ⟨g, o + i * 2, none⟩) hg).trans h3, (hb.cell (p := ⟨g, o + i * 2 + 1, none⟩) hg).trans h4⟩
/-- Where each name stands first. -/
def FirstOk (m : Ents) (vs : Vars) : Prop := ∀ name, lookT m name = (vs.findIdx? fun v => decide (v.1 = name)).map fun i => .int .i64 (i : Int)
/-- The heads' and the turns' maps: said later. -/
structure XAt (w : World) (xb : Nat) (vs : Vars) (mh mt : Nat) : Prop where
  blk : ∃ sv mf m, w.heap[xb]? = some (.cells #[sv, .map (some mf), .map (some mh), .map (some mt)] 61 (0, 0)) ∧ VarsIn w sv vs ∧ MapAt w mf m ∧ FirstOk m vs
theorem XAt.below {w w' : World} {xb mh mt : Nat} {vs : Vars} (h : XAt w xb vs mh mt) (hb : Below w.heap.size w w') : XAt w' xb vs mh mt := by
  obtain ⟨sv, mf, m, h1, h2, h3, h4⟩ := h.blk
  exact ⟨sv, mf, m, (hb.block xb (lt_of_block h1)).trans h1, h2.below hb, h3.below hb, h4⟩
theorem under56 : Tryz.prog.underlying 56 = some (.map 9 3) := by kernel_rfl
theorem zeroInt (w : World) : (zeroValue 3).run Tryz.prog w = .ok (.int .i64 0) w := by kernel_rfl
theorem val_some {vs : Vars} {name : List UInt8} {i : Nat} (h : vs.findIdx? (fun v => decide (v.1 = name)) = some i) : ∃ p, vs[i]? = some p ∧ valF vs name = p.2 := by
  obtain ⟨hi, h1, h2⟩ := List.findIdx?_eq_some_iff_getElem.1 h
  refine ⟨vs[i], List.getElem?_eq_getElem hi, ?_⟩
  have : vs.find? (fun v => decide (v.1 = name)) = some vs[i] := by
    rw [List.find?_eq_some_iff_getElem]
    exact ⟨h1, i, hi, rfl, fun j hj => by simpa using h2 j hj⟩
  unfold valF
  rw [this]
  rfl
theorem val_none {vs : Vars} {name : List UInt8} (h : vs.findIdx? (fun v => decide (v.1 = name)) = none) : valF vs name = [] := by
  have : vs.find? (fun v => decide (v.1 = name)) = none := by
    rw [List.find?_eq_none]
    intro x hx
    have := List.findIdx?_eq_none_iff.1 h x hx
    simpa using this
  unfold valF
  rw [this]
  rfl

set_option maxHeartbeats 1000000 in
theorem value_any {w : World} {xb mh mt : Nat} {vs : Vars} (name : List UInt8) (h : XAt w xb vs mh mt) :
    Calls Tryz.prog 78 #[.pointer (some ⟨xb, 0, none⟩), .string (str name)] w fun e w' => e = .returned (.string (str (valF vs name))) ∧ Below w.heap.size w w' := by
  obtain ⟨sv, mf, m, h1, h2, h3, h4⟩ := h.blk
  have c0 := cell_atT h1 0
  have c1 := cell_atT h1 1
  simp at c0 c1
  have h5 := h4 name
  obtain ⟨z, hz⟩ : ∃ z, str name = z := ⟨_, rfl⟩
  obtain ⟨ad, cap, rfl, hn, hc⟩ := h2
  cases hf : vs.findIdx? (fun v => decide (v.1 = name)) with
  | none =>
    rw [hf] at h5
    have hl := look_none h3 under56 Tryz.underlying9 (zeroInt w) h5
    rw [val_none hf]
    rw [hz] at hl ⊢
    clear h1 h3 h4 h5 hf hc hz h
    go_enter Tryz.func78, Tryz.ntmps78
    go_wp2_with fail
    all_goals go_ret
    all_goals exact ⟨rfl, Below.refl _ _⟩
  | some i =>
    rw [hf] at h5
    have hl := look_some h3 under56 Tryz.underlying9 h5
    obtain ⟨p, hp, hv⟩ := val_some hf
    obtain ⟨g, o, rfl, hg, q0, q1⟩ := hc i p hp
    have hi := (List.getElem?_eq_some_iff.1 hp).1
    obtain ⟨n, hnn⟩ : ∃ n, vs.length = n := ⟨_, rfl⟩
    rw [hv]
    rw [hnn] at c0 hn hi
    rw [hz] at hl ⊢
    clear h1 h3 h4 h5 hf hc hz h hp hv hnn q0
    go_enter Tryz.func78, Tryz.ntmps78
    go_wp2_with fail
    all_goals go_ret
    all_goals exact ⟨rfl, Below.refl _ _⟩

theorem shortForm_any (c : UInt8) (w : World) : Calls Tryz.prog 77 #[.int .u8 c.toNat] w fun e w' => e = .returned (.string (str (shortF c))) ∧ w = w' := by
  unfold shortF
  by_cases h1 : c.toNat = 83
  · rw [if_pos h1]
    go_enter Tryz.func77, Tryz.ntmps77
    go_wp2
    all_goals go_ret
    all_goals exact ⟨rfl, rfl⟩
  rw [if_neg h1]
  by_cases h2 : c.toNat = 87
  · rw [if_pos h2]
    go_enter Tryz.func77, Tryz.ntmps77
    go_wp2
    all_goals go_ret
    all_goals exact ⟨rfl, rfl⟩
  rw [if_neg h2]
  by_cases h3 : c.toNat = 73
  · rw [if_pos h3]
    go_enter Tryz.func77, Tryz.ntmps77
    go_wp2
    all_goals go_ret
    all_goals exact ⟨rfl, rfl⟩
  rw [if_neg h3]
  by_cases h4 : c.toNat = 80
  · rw [if_pos h4]
    go_enter Tryz.func77, Tryz.ntmps77
    go_wp2
    all_goals go_ret
    all_goals exact ⟨rfl, rfl⟩
  rw [if_neg h4]
  by_cases h5 : c.toNat = 68
  · rw [if_pos h5]
    go_enter Tryz.func77, Tryz.ntmps77
    go_wp2
    all_goals go_ret
    all_goals exact ⟨rfl, rfl⟩
  rw [if_neg h5]
  by_cases h6 : c.toNat = 70
  · rw [if_pos h6]
    go_enter Tryz.func77, Tryz.ntmps77
    go_wp2
    all_goals go_ret
    all_goals exact ⟨rfl, rfl⟩
  rw [if_neg h6]
  go_enter Tryz.func77, Tryz.ntmps77
  go_wp2
  all_goals go_ret
  all_goals exact ⟨rfl, rfl⟩

end Go.Proofs.YtgoofifbifdgoaaGreatDoor
