/-
  The proof of 'OptionsAll': its row's step round the walk, and its card.
-/
import Derived.Test.YtgdkpmfdpfjdjaaGreatDoorCards
import Derived.Test.YtgdkpmfdpfjdjaaGreatDoorTie
import Derived.Test.YtgdkpmfdpfjdjaaGreatDoorJF
import Derived.Test.YtgdkpmfdpfjdjaaGreatDoorHW
import Derived.WalkKit
import Derived.ProofKit
import Derived.OpenShut
import Derived.ShutString
import Derived.Deep.DeepHandedRow
import Derived.Deep.DeepWitnessRowRef
import Derived.Lib.LaidTab
import Derived.SizedLaws
import Derived.Stop.LaidErr
import Derived.LaidLaws
import Derived.Carry
namespace Go.Proofs.YtgdkpmfdpfjdjaaGreatDoor.optionsAll
open Go.ChangeShapes Go.WideShapes Go.ChangeAt Go.RowKit
open Go.ChangeMaps (open_string shut_string)
set_option linter.unusedVariables false
set_option maxRecDepth 100000

theorem own : ownKnob Tryz.prog.godebug = none := by kernel_rfl
theorem env {W : World} (h : laidMetH Tryz.prog Rows.optionsAllRow.laid W) : Env W := env_laidO h

theorem contract (H : Type) (enc : TypeId × Value → H) (W : World) (base : Nat) (args : Array Value) (ds gs : List (DataW H)) (before : List MemPlace)
    (hval : ∀ (j : Nat) t v, Tryz.f6.params[j]? = some t → args[j]? = some v → Value.okWide Tryz.prog W .any base t v)
    (hW : DataW.Whole enc Tryz.prog Tryz.f6.params.toList Rows.optionsAllSpec.vars false W args.toList ds gs before) (hL : laidMetH Tryz.prog Rows.optionsAllRow.laid W) (hS : W.ShapedOpen Tryz.prog) (ts : List TypeId) (hsz : (DataW.weightsEach Tryz.prog ts (ds ++ gs)).all (· ≤ reachBytes) = true) (ht0 : ts[0]? = some 39) :
    Calls Tryz.prog 6 args W fun e W' => ∃ v, e = .returned v ∧ Rows.optionsAllSpec.post enc Tryz.prog Tryz.f6 false true false false W args v W' := by
  have hW' := hW
  obtain ⟨p, q, hA0, hV, rfl, hfz, hnd⟩ := hW
  have hA : DataW.TrodAll enc Tryz.prog W 0 (fun _ => true) true Tryz.f6.params.toList args.toList ds p := hA0
  rw [Tryz.params6] at hA hval
  obtain ⟨v0, vs0, d0, ds0, p0, q0, hargs, rfl, rfl, h0, r0⟩ := trodAll_cons hA
  obtain ⟨rfl, rfl, rfl⟩ := trodAll_nil r0
  obtain rfl : args = #[v0] := by cases args; simp_all
  obtain ⟨rfl, rfl⟩ := trodVars_none hV
  obtain ⟨l0, hse0, hwf0, hp0⟩ := open_steps (hval 0 39 v0 rfl rfl) h0
  clear hA0
  simp only [List.append_nil] at hW'
  have hs0 := hwf0 (light_of hsz ht0 rfl)
  refine (optionsAll_walk (env hL) v0 l0 hse0 hs0).mono fun e W' ⟨he, hg⟩ => ?_
  subst he
  exact ⟨_, rfl, _, _, _, [], _, [], hW', trodAll_mk1 (shut_bool Tryz.underlying4 _), (trodAll_cons_mk (Below.trod laidOutV (by kernel_rfl) (of_decide_eq_true (by kernel_rfl)) h0 hg hp0) trodAll_mk0), rfl, hg.frame _, fun h => by cases h⟩

def synS : ByteArray := ⟨#[105, 110, 118, 97, 108, 105, 100, 32, 115, 121, 110, 116, 97, 120]⟩
def rngS : ByteArray := ⟨#[118, 97, 108, 117, 101, 32, 111, 117, 116, 32, 111, 102, 32, 114, 97, 110, 103, 101]⟩
noncomputable def low : Nat := (World.holding Tryz.prog default ⟨#[], #[], []⟩).heap.size
def withCells (cs : Array Value) : Obj → Obj
  | .cells _ t frozen => .cells cs t frozen
  | o => o
def laidmathbitsdeBruijn32tab : Array Value := #[.int .u8 0, .int .u8 1, .int .u8 28, .int .u8 2, .int .u8 29, .int .u8 14, .int .u8 24, .int .u8 3, .int .u8 30, .int .u8 22, .int .u8 20, .int .u8 15, .int .u8 25, .int .u8 17, .int .u8 4, .int .u8 8, .int .u8 31, .int .u8 27, .int .u8 13, .int .u8 23, .int .u8 21, .int .u8 19, .int .u8 16, .int .u8 7, .int .u8 26, .int .u8 12, .int .u8 18, .int .u8 6, .int .u8 11, .int .u8 5, .int .u8 10, .int .u8 9]
def laidmathbitsdeBruijn64tab : Array Value := #[.int .u8 0, .int .u8 1, .int .u8 56, .int .u8 2, .int .u8 57, .int .u8 49, .int .u8 28, .int .u8 3, .int .u8 61, .int .u8 58, .int .u8 42, .int .u8 50, .int .u8 38, .int .u8 29, .int .u8 17, .int .u8 4, .int .u8 62, .int .u8 47, .int .u8 59, .int .u8 36, .int .u8 45, .int .u8 43, .int .u8 51, .int .u8 22, .int .u8 53, .int .u8 39, .int .u8 33, .int .u8 30, .int .u8 24, .int .u8 18, .int .u8 12, .int .u8 5, .int .u8 63, .int .u8 55, .int .u8 48, .int .u8 27, .int .u8 60, .int .u8 41, .int .u8 37, .int .u8 16, .int .u8 46, .int .u8 35, .int .u8 44, .int .u8 21, .int .u8 52, .int .u8 32, .int .u8 23, .int .u8 11, .int .u8 54, .int .u8 26, .int .u8 40, .int .u8 15, .int .u8 34, .int .u8 20, .int .u8 31, .int .u8 10, .int .u8 25, .int .u8 14, .int .u8 19, .int .u8 9, .int .u8 13, .int .u8 8, .int .u8 7, .int .u8 6]
def laidinternalstrconvuint64pow10 : Array Value := #[.int .u64 1, .int .u64 10, .int .u64 100, .int .u64 1000, .int .u64 10000, .int .u64 100000, .int .u64 1000000, .int .u64 10000000, .int .u64 100000000, .int .u64 1000000000, .int .u64 10000000000, .int .u64 100000000000, .int .u64 1000000000000, .int .u64 10000000000000, .int .u64 100000000000000, .int .u64 1000000000000000, .int .u64 10000000000000000, .int .u64 100000000000000000, .int .u64 1000000000000000000, .int .u64 10000000000000000000]
def laidunicodeutf8acceptRanges : Array Value := #[.int .u8 128, .int .u8 191, .int .u8 160, .int .u8 191, .int .u8 128, .int .u8 159, .int .u8 144, .int .u8 191, .int .u8 128, .int .u8 143, .int .u8 0, .int .u8 0, .int .u8 0, .int .u8 0, .int .u8 0, .int .u8 0, .int .u8 0, .int .u8 0, .int .u8 0, .int .u8 0, .int .u8 0, .int .u8 0, .int .u8 0, .int .u8 0, .int .u8 0, .int .u8 0, .int .u8 0, .int .u8 0, .int .u8 0, .int .u8 0, .int .u8 0, .int .u8 0]
def laidmullionkeysspecials : Array Value := #[.string ⟨#[85, 112]⟩, .string ⟨#[27, 91]⟩, .string ⟨#[65]⟩, .string ⟨#[]⟩, .string ⟨#[68, 111, 119, 110]⟩, .string ⟨#[27, 91]⟩, .string ⟨#[66]⟩, .string ⟨#[]⟩, .string ⟨#[82, 105, 103, 104, 116]⟩, .string ⟨#[27, 91]⟩, .string ⟨#[67]⟩, .string ⟨#[]⟩, .string ⟨#[76, 101, 102, 116]⟩, .string ⟨#[27, 91]⟩, .string ⟨#[68]⟩, .string ⟨#[]⟩, .string ⟨#[72, 111, 109, 101]⟩, .string ⟨#[27, 91]⟩, .string ⟨#[72]⟩, .string ⟨#[49]⟩, .string ⟨#[69, 110, 100]⟩, .string ⟨#[27, 91]⟩, .string ⟨#[70]⟩, .string ⟨#[52]⟩, .string ⟨#[73, 110, 115, 101, 114, 116]⟩, .string ⟨#[27, 91]⟩, .string ⟨#[]⟩, .string ⟨#[50]⟩, .string ⟨#[68, 101, 108, 101, 116, 101]⟩, .string ⟨#[27, 91]⟩, .string ⟨#[]⟩, .string ⟨#[51]⟩, .string ⟨#[80, 97, 103, 101, 85, 112]⟩, .string ⟨#[27, 91]⟩, .string ⟨#[]⟩, .string ⟨#[53]⟩, .string ⟨#[80, 97, 103, 101, 68, 111, 119, 110]⟩, .string ⟨#[27, 91]⟩, .string ⟨#[]⟩, .string ⟨#[54]⟩, .string ⟨#[70, 49]⟩, .string ⟨#[27, 79]⟩, .string ⟨#[80]⟩, .string ⟨#[49, 49]⟩, .string ⟨#[70, 50]⟩, .string ⟨#[27, 79]⟩, .string ⟨#[81]⟩, .string ⟨#[49, 50]⟩, .string ⟨#[70, 51]⟩, .string ⟨#[27, 79]⟩, .string ⟨#[82]⟩, .string ⟨#[49, 51]⟩, .string ⟨#[70, 52]⟩, .string ⟨#[27, 79]⟩, .string ⟨#[83]⟩, .string ⟨#[49, 52]⟩, .string ⟨#[70, 53]⟩, .string ⟨#[27, 91]⟩, .string ⟨#[]⟩, .string ⟨#[49, 53]⟩, .string ⟨#[70, 54]⟩, .string ⟨#[27, 91]⟩, .string ⟨#[]⟩, .string ⟨#[49, 55]⟩, .string ⟨#[70, 55]⟩, .string ⟨#[27, 91]⟩, .string ⟨#[]⟩, .string ⟨#[49, 56]⟩, .string ⟨#[70, 56]⟩, .string ⟨#[27, 91]⟩, .string ⟨#[]⟩, .string ⟨#[49, 57]⟩, .string ⟨#[70, 57]⟩, .string ⟨#[27, 91]⟩, .string ⟨#[]⟩, .string ⟨#[50, 48]⟩, .string ⟨#[70, 49, 48]⟩, .string ⟨#[27, 91]⟩, .string ⟨#[]⟩, .string ⟨#[50, 49]⟩, .string ⟨#[70, 49, 49]⟩, .string ⟨#[27, 91]⟩, .string ⟨#[]⟩, .string ⟨#[50, 51]⟩, .string ⟨#[70, 49, 50]⟩, .string ⟨#[27, 91]⟩, .string ⟨#[]⟩, .string ⟨#[50, 52]⟩]
def laidmullionkeysmodifiers : Array Value := #[.int .i64 4, .string ⟨#[67, 45]⟩, .int .i64 2, .string ⟨#[77, 45]⟩, .int .i64 1, .string ⟨#[83, 45]⟩]
def laidmullionkeysnamed : Array Value := #[.int .i64 32, .string ⟨#[83, 112, 97, 99, 101]⟩, .int .i64 13, .string ⟨#[69, 110, 116, 101, 114]⟩, .int .i64 9, .string ⟨#[84, 97, 98]⟩, .int .i64 27, .string ⟨#[69, 115, 99, 97, 112, 101]⟩, .int .i64 127, .string ⟨#[66, 83, 112, 97, 99, 101]⟩, .int .i64 16777239, .string ⟨#[66, 84, 97, 98]⟩]
def laidunicodeutf8first : Array Value := #[.int .u8 240, .int .u8 240, .int .u8 240, .int .u8 240, .int .u8 240, .int .u8 240, .int .u8 240, .int .u8 240, .int .u8 240, .int .u8 240, .int .u8 240, .int .u8 240, .int .u8 240, .int .u8 240, .int .u8 240, .int .u8 240, .int .u8 240, .int .u8 240, .int .u8 240, .int .u8 240, .int .u8 240, .int .u8 240, .int .u8 240, .int .u8 240, .int .u8 240, .int .u8 240, .int .u8 240, .int .u8 240, .int .u8 240, .int .u8 240, .int .u8 240, .int .u8 240, .int .u8 240, .int .u8 240, .int .u8 240, .int .u8 240, .int .u8 240, .int .u8 240, .int .u8 240, .int .u8 240, .int .u8 240, .int .u8 240, .int .u8 240, .int .u8 240, .int .u8 240, .int .u8 240, .int .u8 240, .int .u8 240, .int .u8 240, .int .u8 240, .int .u8 240, .int .u8 240, .int .u8 240, .int .u8 240, .int .u8 240, .int .u8 240, .int .u8 240, .int .u8 240, .int .u8 240, .int .u8 240, .int .u8 240, .int .u8 240, .int .u8 240, .int .u8 240, .int .u8 240, .int .u8 240, .int .u8 240, .int .u8 240, .int .u8 240, .int .u8 240, .int .u8 240, .int .u8 240, .int .u8 240, .int .u8 240, .int .u8 240, .int .u8 240, .int .u8 240, .int .u8 240, .int .u8 240, .int .u8 240, .int .u8 240, .int .u8 240, .int .u8 240, .int .u8 240, .int .u8 240, .int .u8 240, .int .u8 240, .int .u8 240, .int .u8 240, .int .u8 240, .int .u8 240, .int .u8 240, .int .u8 240, .int .u8 240, .int .u8 240, .int .u8 240, .int .u8 240, .int .u8 240, .int .u8 240, .int .u8 240, .int .u8 240, .int .u8 240, .int .u8 240, .int .u8 240, .int .u8 240, .int .u8 240, .int .u8 240, .int .u8 240, .int .u8 240, .int .u8 240, .int .u8 240, .int .u8 240, .int .u8 240, .int .u8 240, .int .u8 240, .int .u8 240, .int .u8 240, .int .u8 240, .int .u8 240, .int .u8 240, .int .u8 240, .int .u8 240, .int .u8 240, .int .u8 240, .int .u8 240, .int .u8 240, .int .u8 240, .int .u8 240, .int .u8 241, .int .u8 241, .int .u8 241, .int .u8 241, .int .u8 241, .int .u8 241, .int .u8 241, .int .u8 241, .int .u8 241, .int .u8 241, .int .u8 241, .int .u8 241, .int .u8 241, .int .u8 241, .int .u8 241, .int .u8 241, .int .u8 241, .int .u8 241, .int .u8 241, .int .u8 241, .int .u8 241, .int .u8 241, .int .u8 241, .int .u8 241, .int .u8 241, .int .u8 241, .int .u8 241, .int .u8 241, .int .u8 241, .int .u8 241, .int .u8 241, .int .u8 241, .int .u8 241, .int .u8 241, .int .u8 241, .int .u8 241, .int .u8 241, .int .u8 241, .int .u8 241, .int .u8 241, .int .u8 241, .int .u8 241, .int .u8 241, .int .u8 241, .int .u8 241, .int .u8 241, .int .u8 241, .int .u8 241, .int .u8 241, .int .u8 241, .int .u8 241, .int .u8 241, .int .u8 241, .int .u8 241, .int .u8 241, .int .u8 241, .int .u8 241, .int .u8 241, .int .u8 241, .int .u8 241, .int .u8 241, .int .u8 241, .int .u8 241, .int .u8 241, .int .u8 241, .int .u8 241, .int .u8 2, .int .u8 2, .int .u8 2, .int .u8 2, .int .u8 2, .int .u8 2, .int .u8 2, .int .u8 2, .int .u8 2, .int .u8 2, .int .u8 2, .int .u8 2, .int .u8 2, .int .u8 2, .int .u8 2, .int .u8 2, .int .u8 2, .int .u8 2, .int .u8 2, .int .u8 2, .int .u8 2, .int .u8 2, .int .u8 2, .int .u8 2, .int .u8 2, .int .u8 2, .int .u8 2, .int .u8 2, .int .u8 2, .int .u8 2, .int .u8 19, .int .u8 3, .int .u8 3, .int .u8 3, .int .u8 3, .int .u8 3, .int .u8 3, .int .u8 3, .int .u8 3, .int .u8 3, .int .u8 3, .int .u8 3, .int .u8 3, .int .u8 35, .int .u8 3, .int .u8 3, .int .u8 52, .int .u8 4, .int .u8 4, .int .u8 4, .int .u8 68, .int .u8 241, .int .u8 241, .int .u8 241, .int .u8 241, .int .u8 241, .int .u8 241, .int .u8 241, .int .u8 241, .int .u8 241, .int .u8 241, .int .u8 241]
noncomputable def laidWorld (os : Os) : World :=
  { World.holding Tryz.prog os ⟨#[.cells #[.string synS] 197, .cells #[.string rngS] 197], #[], []⟩ with heap := (((((((((((World.holding Tryz.prog os ⟨#[.cells #[.string synS] 197, .cells #[.string rngS] 197], #[], []⟩).heap.modify 3 (withCells #[.iface 195 (.pointer (some ⟨low, 0, none⟩))])).modify 4 (withCells #[.iface 195 (.pointer (some ⟨low + 1, 0, none⟩))])).modify 8 (withCells laidmathbitsdeBruijn32tab)).modify 9 (withCells laidmathbitsdeBruijn64tab)).modify 7 (withCells laidinternalstrconvuint64pow10)).modify 6 (withCells laidunicodeutf8acceptRanges)).modify 1 (withCells laidmullionkeysspecials)).modify 0 (withCells laidmullionkeysmodifiers)).modify 2 (withCells laidmullionkeysnamed)).modify 5 (withCells laidunicodeutf8first)) }
theorem laid_met (os : Os) : laidMetH Tryz.prog Rows.optionsAllRow.laid ((laidWorld os).forCall (fun _ _ => 0) ⟨#[], #[.slice none 0 0], []⟩).memory :=
  laidMet_of_fresh 8 (by kernel_rfl) (by kernel_rfl)
theorem reads (os : Os) {H : Type} (enc : TypeId × Value → H) : ∃ places, DataW.whole enc Tryz.prog ((laidWorld os).forCall (fun _ _ => 0) ⟨#[], #[.slice none 0 0], []⟩).memory Tryz.f6.params.toList Rows.optionsAllSpec.vars false #[Value.slice none 0 0].toList 8 = some ([.nil], [], places) :=
  ⟨[], by kernel_rfl⟩

theorem lifted (os : Os) (started : os.Started) (H : Type) (enc : TypeId × Value → H) (F : Stop.Interp) :
    ReturnsInHanded {} Tryz.checked os 6 .any ((OpenSpec.ofChange Rows.optionsAllSpec).preRow enc Tryz.prog Tryz.f6 Rows.optionsAllRow.domain false Rows.optionsAllRow.laid) (((OpenSpec.ofChange Rows.optionsAllSpec).at F).post enc Tryz.prog Tryz.f6 false true false false) := by
  obtain ⟨places, hx⟩ := reads os enc
  refine returnsInHanded_of_row (C := Tryz.checked) (s := (OpenSpec.ofChange Rows.optionsAllSpec)) own started (by kernel_rfl) Tryz.func6
    (witness_row_atRef (enc := enc) (C := Tryz.checked) false (laidWorld os) #[.slice none 0 0] rfl (by kernel_rfl) (by kernel_rfl) (by kernel_rfl)
      (OpenSpec.preRow_of_cond 8 hx (by kernel_rfl) (fun k hk => by cases hk) (by kernel_rfl) (laid_met os))) ?_
  intro W base args ds gs before hval hW _ hcond hsz hL hS _
  exact contract H enc W base args ds gs before hval hW hL hS _ hsz rfl

theorem said : Rows.OptionsAllSaid :=
  OpenClaim.holds_of_cond 6 Tryz.f6 rfl rfl rfl rfl rfl rfl rfl ⟨rfl, rfl, rfl, rfl, rfl⟩ rfl rfl rfl rfl rfl (by kernel_rfl) Tryz.func6 (by kernel_rfl)
    (of_decide_eq_true (by kernel_rfl)) (by unfold Func.isWrapper; first | (rw [if_pos (by decide +kernel)]; kernel_rfl) | (rw [if_neg (by decide +kernel)]; exact ⟨rfl, rfl⟩))
    (fun os started H enc _ F => by rw [OpenClaim.pre_eq_preRow]; exact lifted os started H enc F)

theorem plain (f : FuncId) (fn : Func) (hf : Tryz.pinned.checked.prog.funcNamed "mullion/mullionlaw23.OptionsAll" = some f) (hfn : Tryz.pinned.checked.prog.funcs[f]? = some fn) :
    true = Tryz.pinned.checked.prog.looks [] ∧ ∀ (j : Nat) t, fn.params[j]? = some t → Tryz.pinned.checked.prog.wantsStandIn t = false := by
  obtain rfl : f = 6 := Option.some.inj ((show Tryz.prog.funcNamed "mullion/mullionlaw23.OptionsAll" = some 6 by kernel_rfl).symm.trans hf) |>.symm
  obtain rfl : fn = Tryz.f6 := (Option.some.inj (Tryz.func6.symm.trans hfn)).symm
  refine ⟨by kernel_rfl, fun j t ht => ?_⟩
  rw [Tryz.params6] at ht
  have hm : t ∈ #[39] := Array.mem_of_getElem? ht
  have hs : ∀ t ∈ #[39], Tryz.prog.wantsStandIn t = false := by
    intro t ht
    simp at ht
    obtain rfl := ht
    exact (by kernel_rfl)
  exact hs t hm
end Go.Proofs.YtgdkpmfdpfjdjaaGreatDoor.optionsAll
namespace Go.Proofs.YtgdkpmfdpfjdjaaGreatDoor
theorem optionsAll_card : Rows.OptionsAllCardSaid :=
  Claim7.holds_tied_plain_at .later [] _ _ _ _ optionsAll.said (fun _ h => by cases h) (by kernel_rfl) (fun _ h => by cases h) optionsAll_row_tie rfl ⟨rfl, rfl⟩ (by kernel_rfl) rfl optionsAll.plain (by kernel_rfl)
#print axioms optionsAll_card
end Go.Proofs.YtgdkpmfdpfjdjaaGreatDoor
