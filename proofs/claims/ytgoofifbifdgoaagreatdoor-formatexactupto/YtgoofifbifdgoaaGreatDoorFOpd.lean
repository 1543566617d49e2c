/-
  Formats: what a part means; a choice.
-/
import Derived.Test.YtgoofifbifdgoaaGreatDoorFTrd
namespace Go.Proofs.YtgoofifbifdgoaaGreatDoor
open Go.RowKit
set_option linter.unusedVariables false
set_option maxRecDepth 100000

/-- The expander and what else is wanted. -/
structure XE (w : World) (xb : Nat) (vs : Vars) : Prop where
  all : XAll w xb vs
  max : ∃ m, w.cell? ⟨1, 0, none⟩ = some (.int .i64 m)
  short : ∀ p ∈ vs, p.2.length ≤ 2147483647
theorem XE.below {w w' : World} {xb : Nat} {vs : Vars} (h : XE w xb vs) (hb : Below w.heap.size w w') : XE w' xb vs := by
  obtain ⟨m, hm⟩ := h.max
  exact ⟨h.all.below hb, ⟨m, (hb.cell (p := ⟨1, 0, none⟩) (World.block_lt_of_cell? w _ hm)).trans hm⟩, h.short⟩
theorem XE.val {w : World} {xb : Nat} {vs : Vars} (h : XE w xb vs) (name : List UInt8) : Calls Tryz.prog 78 #[.pointer (some ⟨xb, 0, none⟩), .string (str name)] w fun e w' => e = .returned (.string (str (valF vs name))) ∧ Below w.heap.size w w' := by
  obtain ⟨mh, mt, w0, h1, _⟩ := h.all.at_
  exact value_any name h1
theorem val_short {vs : Vars} (h : ∀ p ∈ vs, p.2.length ≤ 2147483647) (name : List UInt8) : (valF vs name).length ≤ 2147483647 := by
  unfold valF
  cases hf : vs.find? (fun v => decide (v.1 = name)) with
  | none => simp
  | some p => exact h p (List.mem_of_find?_eq_some hf)
/-- What a part says at a depth. -/
def SayOk (r : Nat) : Prop := ∀ (w : World) (xb : Nat) (vs : Vars), XE w xb vs → ∀ l : List UInt8, l.length ≤ 2147483647 → ∀ res, sayF vs r l = some res → Calls Tryz.prog 20 #[.pointer (some ⟨xb, 0, none⟩), .string (str l), .int .i64 ((16 : Int) - (r : Int))] w fun e w' => Out res e ∧ Below w.heap.size w w'

set_option maxHeartbeats 2000000 in
theorem operand_any {r : Nat} (hS : SayOk r) (hr : r ≤ 16) {w : World} {xb : Nat} {vs : Vars} (hX : XE w xb vs) (p : List UInt8) (hp : p.length ≤ 2147483647) (res : Except Int (List UInt8)) (h : operandF (sayF vs r) vs p = some res) :
    Calls Tryz.prog 106 #[.pointer (some ⟨xb, 0, none⟩), .string (str p), .int .i64 ((16 : Int) - (r : Int))] w fun e w' => Out res e ∧ Below w.heap.size w w' := by
  have HI := hidK (ident_any p hp w)
  obtain ⟨d, hd⟩ : ∃ d : Int, (16 : Int) - (r : Int) = d := ⟨_, rfl⟩
  unfold operandF at h
  cases hid : identF p with
  | true =>
    rw [if_pos hid] at h
    rw [hid] at HI
    have hres : res = .ok (valF vs p) := (Option.some.inj h).symm
    have HRs := hidK hres
    have HV := hidK (hX.val p)
    obtain ⟨z, hz⟩ : ∃ z, str p = z := ⟨_, rfl⟩
    rw [hz] at HI HV ⊢
    rw [hd]
    clear h hid hres hd hz hS hX
    go_enter Tryz.func106, Tryz.ntmps106
    go_wp2_with (first | (go_at_call 129; refine HI.out.mono ?_; rintro x w1 ⟨rfl, rfl⟩) | (go_at_call 78; refine HV.out.mono ?_; rintro x w1 ⟨rfl, hb1⟩))
    all_goals go_ret2
    all_goals exact ⟨by rw [HRs.out]; rfl, by assumption⟩
  | false =>
    rw [if_neg (by rw [hid]; decide)] at h
    rw [hid] at HI
    have HE := hidK (hS w xb vs hX p hp res h)
    obtain ⟨z, hz⟩ : ∃ z, str p = z := ⟨_, rfl⟩
    rw [hz] at HI HE ⊢
    rw [hd] at HE ⊢
    clear h hid hd hz hS hX
    cases res with
    | ok s =>
      go_enter Tryz.func106, Tryz.ntmps106
      go_wp2_with (first | (go_at_call 129; refine HI.out.mono ?_; rintro x w1 ⟨rfl, rfl⟩) | (go_at_call 20; refine HE.out.mono ?_; rintro x w1 ⟨ho, hb1⟩; (have ho' : x = .returned (.tuple #[.string (str s), .nilIface]) := ho); subst ho'; clear ho))
      all_goals go_ret2
      all_goals exact ⟨rfl, by assumption⟩
    | error k =>
      go_enter Tryz.func106, Tryz.ntmps106
      go_wp2_with (first | (go_at_call 129; refine HI.out.mono ?_; rintro x w1 ⟨rfl, rfl⟩) | (go_at_call 20; refine HE.out.mono ?_; rintro x w1 ⟨⟨v, rfl, hv⟩, hb1⟩))
      all_goals go_ret2
      all_goals exact ⟨⟨_, rfl, by assumption⟩, by assumption⟩

end Go.Proofs.YtgoofifbifdgoaaGreatDoor
