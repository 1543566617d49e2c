/-
  The proof of 'KeysFeedsUpto': its row's step round the walk, and its card.
-/
import Derived.Test.YtnehkokppobncaaDoorCards
import Derived.Test.YtnehkokppobncaaDoorTie
import Derived.Test.YtnehkokppobncaaDoorKFdw
import Derived.Test.YtnehkokppobncaaDoorGR
import Derived.Test.YtnehkokppobncaaDoorWLaid
import Derived.WalkKit
import Derived.ProofKit
import Derived.OpenShut
import Derived.ShutString
import Derived.Deep.DeepHandedRow
import Derived.Deep.DeepWitnessRowRef
import Derived.Lib.LaidTab
import Derived.SizedLaws
import Derived.Stop.LaidErr
import Derived.LaidLaws
import Derived.Test.YtnehkokppobncaaDoorKLaid
import Derived.Carry
namespace Go.Proofs.YtnehkokppobncaaDoor.keysFeeds
open Go.ChangeShapes Go.WideShapes Go.ChangeAt Go.RowKit
open Go.ChangeMaps (open_string shut_string)
set_option linter.unusedVariables false
set_option maxRecDepth 100000

theorem own : ownKnob Tryd.prog.godebug = none := by kernel_rfl
theorem env {W : World} (h : laidMetH Tryd.prog Rows.keysFeedsUptoRow.laid W) : Tabs W := tabs_laid h

/-- What the bound gives: the texts' lengths. -/
theorem short {H : Type} (d0 : DataW H) (hk : Rows.uptoSmall H [d0] = true) : Rows.uptoBulk d0 ≤ 1048576 := by
  have h : Rows.uptoBulkAll [d0] ≤ 1048576 := of_decide_eq_true hk
  simp only [Rows.uptoBulkAll] at h

  omega

theorem contract (H : Type) (enc : TypeId × Value → H) (W : World) (base : Nat) (args : Array Value) (ds gs : List (DataW H)) (before : List MemPlace)
    (hval : ∀ (j : Nat) t v, Tryd.f3.params[j]? = some t → args[j]? = some v → Value.okWide Tryd.prog W .any base t v)
    (hW : DataW.Whole enc Tryd.prog Tryd.f3.params.toList Rows.keysFeedsSpec.vars false W args.toList ds gs before) (hL : laidMetH Tryd.prog Rows.keysFeedsUptoRow.laid W) (hS : W.ShapedOpen Tryd.prog) (hk : Rows.uptoSmall H (ds ++ gs) = true) :
    Calls Tryd.prog 3 args W fun e W' => ∃ v, e = .returned v ∧ Rows.keysFeedsSpec.post enc Tryd.prog Tryd.f3 false true false false W args v W' := by
  have hW' := hW
  obtain ⟨p, q, hA0, hV, rfl, hfz, hnd⟩ := hW
  have hA : DataW.TrodAll enc Tryd.prog W 0 (fun _ => true) true Tryd.f3.params.toList args.toList ds p := hA0
  rw [Tryd.params3] at hA hval
  obtain ⟨v0, vs0, d0, ds0, p0, q0, hargs, rfl, rfl, h0, r0⟩ := trodAll_cons hA
  obtain ⟨rfl, rfl, rfl⟩ := trodAll_nil r0
  obtain rfl : args = #[v0] := by cases args; simp_all
  obtain ⟨rfl, rfl⟩ := trodVars_none hV
  obtain ⟨l0, ⟨ad0, cp0, rfl, hse0⟩, hb0, hp0⟩ := open_lines (hval 0 22 v0 rfl rfl) h0
  clear hA0
  simp only [List.append_nil] at hW' hk
  have hsh := short _ hk
  have hs0 := hsh
  refine (keysFeeds_walk l0 ad0 cp0 W hse0 (by omega) (env hL)).mono fun e W' ⟨he, hg⟩ => ?_
  subst he
  exact ⟨_, rfl, _, _, _, [], _, [], hW', trodAll_mk1 (shut_bool Tryd.underlying4 _), (trodAll_cons_mk (Below.trod laidOutV (by kernel_rfl) (of_decide_eq_true (by kernel_rfl)) h0 hg hp0) trodAll_mk0), rfl, hg.frame _, fun h => by cases h⟩

def withCells (cs : Array Value) : Obj → Obj
  | .cells _ t frozen => .cells cs t frozen
  | o => o
def laidunicodeutf8acceptRanges : Array Value := #[.int .u8 128, .int .u8 191, .int .u8 160, .int .u8 191, .int .u8 128, .int .u8 159, .int .u8 144, .int .u8 191, .int .u8 128, .int .u8 143, .int .u8 0, .int .u8 0, .int .u8 0, .int .u8 0, .int .u8 0, .int .u8 0, .int .u8 0, .int .u8 0, .int .u8 0, .int .u8 0, .int .u8 0, .int .u8 0, .int .u8 0, .int .u8 0, .int .u8 0, .int .u8 0, .int .u8 0, .int .u8 0, .int .u8 0, .int .u8 0, .int .u8 0, .int .u8 0]
def laidmullionkeysspecials : Array Value := #[.string ⟨#[85, 112]⟩, .string ⟨#[27, 91]⟩, .string ⟨#[65]⟩, .string ⟨#[]⟩, .string ⟨#[68, 111, 119, 110]⟩, .string ⟨#[27, 91]⟩, .string ⟨#[66]⟩, .string ⟨#[]⟩, .string ⟨#[82, 105, 103, 104, 116]⟩, .string ⟨#[27, 91]⟩, .string ⟨#[67]⟩, .string ⟨#[]⟩, .string ⟨#[76, 101, 102, 116]⟩, .string ⟨#[27, 91]⟩, .string ⟨#[68]⟩, .string ⟨#[]⟩, .string ⟨#[72, 111, 109, 101]⟩, .string ⟨#[27, 91]⟩, .string ⟨#[72]⟩, .string ⟨#[49]⟩, .string ⟨#[69, 110, 100]⟩, .string ⟨#[27, 91]⟩, .string ⟨#[70]⟩, .string ⟨#[52]⟩, .string ⟨#[73, 110, 115, 101, 114, 116]⟩, .string ⟨#[27, 91]⟩, .string ⟨#[]⟩, .string ⟨#[50]⟩, .string ⟨#[68, 101, 108, 101, 116, 101]⟩, .string ⟨#[27, 91]⟩, .string ⟨#[]⟩, .string ⟨#[51]⟩, .string ⟨#[80, 97, 103, 101, 85, 112]⟩, .string ⟨#[27, 91]⟩, .string ⟨#[]⟩, .string ⟨#[53]⟩, .string ⟨#[80, 97, 103, 101, 68, 111, 119, 110]⟩, .string ⟨#[27, 91]⟩, .string ⟨#[]⟩, .string ⟨#[54]⟩, .string ⟨#[70, 49]⟩, .string ⟨#[27, 79]⟩, .string ⟨#[80]⟩, .string ⟨#[49, 49]⟩, .string ⟨#[70, 50]⟩, .string ⟨#[27, 79]⟩, .string ⟨#[81]⟩, .string ⟨#[49, 50]⟩, .string ⟨#[70, 51]⟩, .string ⟨#[27, 79]⟩, .string ⟨#[82]⟩, .string ⟨#[49, 51]⟩, .string ⟨#[70, 52]⟩, .string ⟨#[27, 79]⟩, .string ⟨#[83]⟩, .string ⟨#[49, 52]⟩, .string ⟨#[70, 53]⟩, .string ⟨#[27, 91]⟩, .string ⟨#[]⟩, .string ⟨#[49, 53]⟩, .string ⟨#[70, 54]⟩, .string ⟨#[27, 91]⟩, .string ⟨#[]⟩, .string ⟨#[49, 55]⟩, .string ⟨#[70, 55]⟩, .string ⟨#[27, 91]⟩, .string ⟨#[]⟩, .string ⟨#[49, 56]⟩, .string ⟨#[70, 56]⟩, .string ⟨#[27, 91]⟩, .string ⟨#[]⟩, .string ⟨#[49, 57]⟩, .string ⟨#[70, 57]⟩, .string ⟨#[27, 91]⟩, .string ⟨#[]⟩, .string ⟨#[50, 48]⟩, .string ⟨#[70, 49, 48]⟩, .string ⟨#[27, 91]⟩, .string ⟨#[]⟩, .string ⟨#[50, 49]⟩, .string ⟨#[70, 49, 49]⟩, .string ⟨#[27, 91]⟩, .string ⟨#[]⟩, .string ⟨#[50, 51]⟩, .string ⟨#[70, 49, 50]⟩, .string ⟨#[27, 91]⟩, .string ⟨#[]⟩, .string ⟨#[50, 52]⟩]
def laidmullionkeysmodifiers : Array Value := #[.int .i64 4, .string ⟨#[67, 45]⟩, .int .i64 2, .string ⟨#[77, 45]⟩, .int .i64 1, .string ⟨#[83, 45]⟩]
def laidmullionkeysnamed : Array Value := #[.int .i64 32, .string ⟨#[83, 112, 97, 99, 101]⟩, .int .i64 13, .string ⟨#[69, 110, 116, 101, 114]⟩, .int .i64 9, .string ⟨#[84, 97, 98]⟩, .int .i64 27, .string ⟨#[69, 115, 99, 97, 112, 101]⟩, .int .i64 127, .string ⟨#[66, 83, 112, 97, 99, 101]⟩, .int .i64 16777239, .string ⟨#[66, 84, 97, 98]⟩]
def laidunicodeutf8first : Array Value := #[.int .u8 240, .int .u8 240, .int .u8 240, .int .u8 240, .int .u8 240, .int .u8 240, .int .u8 240, .int .u8 240, .int .u8 240, .int .u8 240, .int .u8 240, .int .u8 240, .int .u8 240, .int .u8 240, .int .u8 240, .int .u8 240, .int .u8 240, .int .u8 240, .int .u8 240, .int .u8 240, .int .u8 240, .int .u8 240, .int .u8 240, .int .u8 240, .int .u8 240, .int .u8 240, .int .u8 240, .int .u8 240, .int .u8 240, .int .u8 240, .int .u8 240, .int .u8 240, .int .u8 240, .int .u8 240, .int .u8 240, .int .u8 240, .int .u8 240, .int .u8 240, .int .u8 240, .int .u8 240, .int .u8 240, .int .u8 240, .int .u8 240, .int .u8 240, .int .u8 240, .int .u8 240, .int .u8 240, .int .u8 240, .int .u8 240, .int .u8 240, .int .u8 240, .int .u8 240, .int .u8 240, .int .u8 240, .int .u8 240, .int .u8 240, .int .u8 240, .int .u8 240, .int .u8 240, .int .u8 240, .int .u8 240, .int .u8 240, .int .u8 240, .int .u8 240, .int .u8 240, .int .u8 240, .int .u8 240, .int .u8 240, .int .u8 240, .int .u8 240, .int .u8 240, .int .u8 240, .int .u8 240, .int .u8 240, .int .u8 240, .int .u8 240, .int .u8 240, .int .u8 240, .int .u8 240, .int .u8 240, .int .u8 240, .int .u8 240, .int .u8 240, .int .u8 240, .int .u8 240, .int .u8 240, .int .u8 240, .int .u8 240, .int .u8 240, .int .u8 240, .int .u8 240, .int .u8 240, .int .u8 240, .int .u8 240, .int .u8 240, .int .u8 240, .int .u8 240, .int .u8 240, .int .u8 240, .int .u8 240, .int .u8 240, .int .u8 240, .int .u8 240, .int .u8 240, .int .u8 240, .int .u8 240, .int .u8 240, .int .u8 240, .int .u8 240, .int .u8 240, .int .u8 240, .int .u8 240, .int .u8 240, .int .u8 240, .int .u8 240, .int .u8 240, .int .u8 240, .int .u8 240, .int .u8 240, .int .u8 240, .int .u8 240, .int .u8 240, .int .u8 240, .int .u8 240, .int .u8 240, .int .u8 240, .int .u8 240, .int .u8 240, .int .u8 241, .int .u8 241, .int .u8 241, .int .u8 241, .int .u8 241, .int .u8 241, .int .u8 241, .int .u8 241, .int .u8 241, .int .u8 241, .int .u8 241, .int .u8 241, .int .u8 241, .int .u8 241, .int .u8 241, .int .u8 241, .int .u8 241, .int .u8 241, .int .u8 241, .int .u8 241, .int .u8 241, .int .u8 241, .int .u8 241, .int .u8 241, .int .u8 241, .int .u8 241, .int .u8 241, .int .u8 241, .int .u8 241, .int .u8 241, .int .u8 241, .int .u8 241, .int .u8 241, .int .u8 241, .int .u8 241, .int .u8 241, .int .u8 241, .int .u8 241, .int .u8 241, .int .u8 241, .int .u8 241, .int .u8 241, .int .u8 241, .int .u8 241, .int .u8 241, .int .u8 241, .int .u8 241, .int .u8 241, .int .u8 241, .int .u8 241, .int .u8 241, .int .u8 241, .int .u8 241, .int .u8 241, .int .u8 241, .int .u8 241, .int .u8 241, .int .u8 241, .int .u8 241, .int .u8 241, .int .u8 241, .int .u8 241, .int .u8 241, .int .u8 241, .int .u8 241, .int .u8 241, .int .u8 2, .int .u8 2, .int .u8 2, .int .u8 2, .int .u8 2, .int .u8 2, .int .u8 2, .int .u8 2, .int .u8 2, .int .u8 2, .int .u8 2, .int .u8 2, .int .u8 2, .int .u8 2, .int .u8 2, .int .u8 2, .int .u8 2, .int .u8 2, .int .u8 2, .int .u8 2, .int .u8 2, .int .u8 2, .int .u8 2, .int .u8 2, .int .u8 2, .int .u8 2, .int .u8 2, .int .u8 2, .int .u8 2, .int .u8 2, .int .u8 19, .int .u8 3, .int .u8 3, .int .u8 3, .int .u8 3, .int .u8 3, .int .u8 3, .int .u8 3, .int .u8 3, .int .u8 3, .int .u8 3, .int .u8 3, .int .u8 3, .int .u8 35, .int .u8 3, .int .u8 3, .int .u8 52, .int .u8 4, .int .u8 4, .int .u8 4, .int .u8 68, .int .u8 241, .int .u8 241, .int .u8 241, .int .u8 241, .int .u8 241, .int .u8 241, .int .u8 241, .int .u8 241, .int .u8 241, .int .u8 241, .int .u8 241]
noncomputable def laidWorld (os : Os) : World :=
  { World.holding Tryd.prog os ⟨#[], #[], []⟩ with heap := ((((((World.holding Tryd.prog os ⟨#[], #[], []⟩).heap.modify 4 (withCells laidunicodeutf8acceptRanges)).modify 1 (withCells laidmullionkeysspecials)).modify 0 (withCells laidmullionkeysmodifiers)).modify 2 (withCells laidmullionkeysnamed)).modify 3 (withCells laidunicodeutf8first)) }
theorem laid_met (os : Os) : laidMetH Tryd.prog Rows.keysFeedsUptoRow.laid ((laidWorld os).forCall (fun _ _ => 0) ⟨#[], #[.slice none 0 0], []⟩).memory :=
  laidMet_of_fresh 8 (by kernel_rfl) (by kernel_rfl)
theorem reads (os : Os) {H : Type} (enc : TypeId × Value → H) : ∃ places, DataW.whole enc Tryd.prog ((laidWorld os).forCall (fun _ _ => 0) ⟨#[], #[.slice none 0 0], []⟩).memory Tryd.f3.params.toList Rows.keysFeedsSpec.vars false #[Value.slice none 0 0].toList 8 = some ([.nil], [], places) :=
  ⟨[], by kernel_rfl⟩

theorem lifted (os : Os) (started : os.Started) (H : Type) (enc : TypeId × Value → H) (F : Stop.Interp) :
    ReturnsInHanded {} Tryd.checked os 3 .any ((Rows.OpenSpec.upto Rows.keysFeedsSpec).preRow enc Tryd.prog Tryd.f3 Rows.keysFeedsUptoRow.domain false Rows.keysFeedsUptoRow.laid) (((Rows.OpenSpec.upto Rows.keysFeedsSpec).at F).post enc Tryd.prog Tryd.f3 false true false false) := by
  obtain ⟨places, hx⟩ := reads os enc
  refine returnsInHanded_of_row (C := Tryd.checked) (s := (Rows.OpenSpec.upto Rows.keysFeedsSpec)) own started (by kernel_rfl) Tryd.func3
    (witness_row_atRef (enc := enc) (C := Tryd.checked) false (laidWorld os) #[.slice none 0 0] rfl (by kernel_rfl) (by kernel_rfl) (by kernel_rfl)
      (OpenSpec.preRow_of_cond 8 hx (by kernel_rfl) (fun k hk => by cases hk; kernel_rfl) (by kernel_rfl) (laid_met os))) ?_
  intro W base args ds gs before hval hW _ hcond hsz hL hS _
  exact contract H enc W base args ds gs before hval hW hL hS (hcond _ rfl)

theorem said : Rows.KeysFeedsUptoSaid :=
  OpenClaim.holds_of_cond 3 Tryd.f3 rfl rfl rfl rfl rfl rfl rfl ⟨rfl, rfl, rfl, rfl, rfl⟩ rfl rfl rfl rfl rfl (by kernel_rfl) Tryd.func3 (by kernel_rfl)
    (of_decide_eq_true (by kernel_rfl)) (by unfold Func.isWrapper; first | (rw [if_pos (by decide +kernel)]; kernel_rfl) | (rw [if_neg (by decide +kernel)]; exact ⟨rfl, rfl⟩))
    (fun os started H enc _ F => by rw [OpenClaim.pre_eq_preRow]; exact lifted os started H enc F)

theorem plain (f : FuncId) (fn : Func) (hf : Tryd.pinned.checked.prog.funcNamed "mullion/mullionlaw21.KeysFeeds" = some f) (hfn : Tryd.pinned.checked.prog.funcs[f]? = some fn) :
    false = Tryd.pinned.checked.prog.looks [] ∧ ∀ (j : Nat) t, fn.params[j]? = some t → Tryd.pinned.checked.prog.wantsStandIn t = false := by
  obtain rfl : f = 3 := Option.some.inj ((show Tryd.prog.funcNamed "mullion/mullionlaw21.KeysFeeds" = some 3 by kernel_rfl).symm.trans hf) |>.symm
  obtain rfl : fn = Tryd.f3 := (Option.some.inj (Tryd.func3.symm.trans hfn)).symm
  refine ⟨by kernel_rfl, fun j t ht => ?_⟩
  rw [Tryd.params3] at ht
  have hm : t ∈ #[22] := Array.mem_of_getElem? ht
  have hs : ∀ t ∈ #[22], Tryd.prog.wantsStandIn t = false := by
    intro t ht
    simp at ht
    obtain rfl := ht
    exact (by kernel_rfl)
  exact hs t hm
end Go.Proofs.YtnehkokppobncaaDoor.keysFeeds
namespace Go.Proofs.YtnehkokppobncaaDoor
theorem keysFeedsUpto_card : Rows.KeysFeedsUptoCardSaid :=
  Claim7.holds_tied_plain_at .later [] _ _ _ _ keysFeeds.said (fun _ h => by cases h) (by kernel_rfl) (fun _ h => by cases h) keysFeedsUpto_row_tie rfl ⟨rfl, rfl⟩ (by kernel_rfl) rfl keysFeeds.plain (by kernel_rfl)
#print axioms keysFeedsUpto_card
end Go.Proofs.YtnehkokppobncaaDoor
