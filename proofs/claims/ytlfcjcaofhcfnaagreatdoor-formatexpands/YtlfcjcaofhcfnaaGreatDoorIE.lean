/-
  Formats: what a part means, as the document says it.
-/
import Derived.Test.YtlfcjcaofhcfnaaGreatDoorIA
import Derived.Test.YtlfcjcaofhcfnaaGreatDoorIC
import Derived.Test.YtlfcjcaofhcfnaaGreatDoorID
namespace Go.Proofs.YtlfcjcaofhcfnaaGreatDoor
open Go.RowKit
set_option linter.unusedVariables false
set_option maxRecDepth 100000

/-- What the document's functions find: the variables, the program's own cells. -/
structure RE (w : World) (sv : Value) (vs : Vars) : Prop where
  vars : VarsIn w sv vs
  num : NEnv w
  short : ∀ p ∈ vs, p.2.length ≤ 2147483647
theorem RE.below {w w' : World} {sv : Value} {vs : Vars} (h : RE w sv vs) (hb : Below w.heap.size w w') : RE w' sv vs := ⟨h.vars.below hb, h.num.below hb, h.short⟩
def resF (r : Res) : Except Int (List UInt8) := r.getD (.error 0)
/-- The document's expand, at a depth: so many places more are allowed. -/
def SayR (vs : Vars) (sv : Value) (r : Nat) (D : Int) : Prop := ∀ (l : List UInt8) (w : World), RE w sv vs → l.length ≤ 1048576 → Calls Tryz.prog 12 #[.string (str l), sv, .int .i64 D] w fun e w' => e = ansF (resF (sayF vs r l)) ∧ Below w.heap.size w w'
set_option maxHeartbeats 1000000 in
theorem operandR_any {vs : Vars} {sv : Value} {r : Nat} {D : Int} (hD : 0 ≤ D ∧ D ≤ 15) (hS : SayR vs sv r (D + 1)) (l : List UInt8) (hl : l.length ≤ 1048576) (w : World) (hE : RE w sv vs) : Calls Tryz.prog 113 #[.string (str l), sv, .int .i64 D] w fun e w' => e = ansF (resF (operandF (sayF vs r) vs l)) ∧ Below w.heap.size w w' := by
  have HI := hidK fun W => identR_any l (by omega) W
  have HV := hidK (valueR_any hE.vars l)
  have HS := hidK (hS l w hE hl)
  cases hi : identF l with
  | true =>
    have e : operandF (sayF vs r) vs l = some (.ok (valF vs l)) := by unfold operandF; rw [hi]; rfl
    rw [e]
    rw [hi] at HI
    obtain ⟨y, hy⟩ : ∃ y, str (valF vs l) = y := ⟨_, rfl⟩
    rw [hy] at HV
    have HA : Hid (ansF (resF (some (.ok (valF vs l)))) = .returned (.tuple #[.string y, .int .i64 0])) := by show _ = _; rw [← hy]; rfl
    obtain ⟨z, hz⟩ : ∃ z, str l = z := ⟨_, rfl⟩
    rw [hz] at HI HV ⊢
    obtain ⟨A, hA⟩ : ∃ A, ansF (resF (some (.ok (valF vs l)))) = A := ⟨_, rfl⟩
    rw [hA] at HA ⊢
    clear hy hz hS HS e hi hA
    go_enter Tryz.func113, Tryz.ntmps113
    go_wp2_with fail
    refine (HI.out _).mono ?_
    rintro e w1 ⟨rfl, rfl⟩
    go_wp2_with fail
    refine HV.out.mono ?_
    rintro e w1 ⟨rfl, hb⟩
    have HB := hidK hb
    clear hb
    go_wp2_with fail
    all_goals go_ret2
    all_goals exact ⟨by rw [HA.out]; rfl, HB.out⟩
  | false =>
    have e : operandF (sayF vs r) vs l = sayF vs r l := by unfold operandF; rw [hi]; rfl
    rw [e]
    rw [hi] at HI
    obtain ⟨x, hx⟩ : ∃ x, resF (sayF vs r l) = x := ⟨_, rfl⟩
    rw [hx] at HS ⊢
    rw [ans_two] at HS ⊢
    obtain ⟨y, hy⟩ : ∃ y, str (txtF x) = y := ⟨_, rfl⟩
    obtain ⟨c, hc⟩ : ∃ c, codF x = c := ⟨_, rfl⟩
    rw [hy, hc] at HS ⊢
    obtain ⟨z, hz⟩ : ∃ z, str l = z := ⟨_, rfl⟩
    rw [hz] at HI HS ⊢
    clear hy hc hz hS HV e hi hx
    go_enter Tryz.func113, Tryz.ntmps113
    go_wp2_with fail
    refine (HI.out _).mono ?_
    rintro e w1 ⟨rfl, rfl⟩
    go_wp2_with fail
    refine HS.out.mono ?_
    rintro e w1 ⟨rfl, hb⟩
    have HB := hidK hb
    clear hb
    go_wp2_with fail
    all_goals go_ret2
    all_goals exact ⟨rfl, HB.out⟩

end Go.Proofs.YtlfcjcaofhcfnaaGreatDoor
