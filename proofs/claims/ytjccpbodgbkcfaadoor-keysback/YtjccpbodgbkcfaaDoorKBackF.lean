/-
  The proof of 'KeysBack': its row's step round the walk, and its card.
-/
import Derived.Test.YtjccpbodgbkcfaaDoorCards
import Derived.Test.YtjccpbodgbkcfaaDoorTie
import Derived.Test.YtjccpbodgbkcfaaDoorKBack
import Derived.Test.YtjccpbodgbkcfaaDoorKOpn
import Derived.Test.YtjccpbodgbkcfaaDoorWLaid
import Derived.WalkKit
import Derived.ProofKit
import Derived.OpenShut
import Derived.ShutString
import Derived.Deep.DeepHandedRow
import Derived.Deep.DeepWitnessRowRef
import Derived.Lib.LaidTab
import Derived.SizedLaws
import Derived.Stop.LaidErr
import Derived.LaidLaws
import Derived.Test.YtjccpbodgbkcfaaDoorKLaid
import Derived.Carry
namespace Go.Proofs.YtjccpbodgbkcfaaDoor.keysBack
open Go.ChangeShapes Go.WideShapes Go.ChangeAt Go.RowKit
open Go.ChangeMaps (open_string shut_string)
set_option linter.unusedVariables false
set_option maxRecDepth 100000

theorem own : ownKnob Tryd.prog.godebug = none := by kernel_rfl
theorem env {W : World} (h : laidMetH Tryd.prog Rows.keysBackRow.laid W) : Tabs W := tabs_laid h

theorem contract (H : Type) (enc : TypeId × Value → H) (W : World) (base : Nat) (args : Array Value) (ds gs : List (DataW H)) (before : List MemPlace)
    (hval : ∀ (j : Nat) t v, Tryd.f5.params[j]? = some t → args[j]? = some v → Value.okWide Tryd.prog W .any base t v)
    (hW : DataW.Whole enc Tryd.prog Tryd.f5.params.toList Rows.keysBackSpec.vars false W args.toList ds gs before) (hL : laidMetH Tryd.prog Rows.keysBackRow.laid W) (hS : W.ShapedOpen Tryd.prog) (ts : List TypeId) (hsz : (DataW.weightsEach Tryd.prog ts (ds ++ gs)).all (· ≤ reachBytes) = true) (ht1 : ts[1]? = some 9) :
    Calls Tryd.prog 5 args W fun e W' => ∃ v, e = .returned v ∧ Rows.keysBackSpec.post enc Tryd.prog Tryd.f5 false true false false W args v W' := by
  have hW' := hW
  obtain ⟨p, q, hA0, hV, rfl, hfz, hnd⟩ := hW
  have hA : DataW.TrodAll enc Tryd.prog W 0 (fun _ => true) true Tryd.f5.params.toList args.toList ds p := hA0
  rw [Tryd.params5] at hA hval
  obtain ⟨v0, vs0, d0, ds0, p0, q0, hargs, rfl, rfl, h0, r0⟩ := trodAll_cons hA
  obtain ⟨v1, vs1, d1, ds1, p1, q1, rfl, rfl, rfl, h1, r1⟩ := trodAll_cons r0
  obtain ⟨rfl, rfl, rfl⟩ := trodAll_nil r1
  obtain rfl : args = #[v0, v1] := by cases args; simp_all
  obtain ⟨rfl, rfl⟩ := trodVars_none hV
  obtain ⟨x0, y0, rfl, rfl⟩ := open_key (hval 0 30 v0 rfl rfl) h0
  obtain ⟨a1, rfl, rfl, rfl, w1⟩ := open_string Tryd.underlying9 (hval 1 9 v1 rfl rfl) h1
  clear hA0
  simp only [List.append_nil] at hW'
  have hs1 : a1.size ≤ 140737488351232 := by have h := sized_string hsz (j := 1) (t := 9) ht1 rfl; rw [Array.length_toList] at h; exact h
  refine (keysBack_walk x0 y0 a1.data.toList (by rw [size_data]; omega) W (env hL)).mono fun e W' ⟨he, hg⟩ => ?_
  subst he
  exact ⟨_, rfl, _, _, _, [], _, [], hW', trodAll_mk1 (shut_bool Tryd.underlying4 _), (trodAll_cons_mk (Below.trod laidOutV (by kernel_rfl) (of_decide_eq_true (by kernel_rfl)) h0 hg (fun x hx => by cases hx)) (trodAll_cons_mk (shut_string Tryd.underlying9 w1) trodAll_mk0)), rfl, hg.frame _, fun h => by cases h⟩

def withCells (cs : Array Value) : Obj → Obj
  | .cells _ t frozen => .cells cs t frozen
  | o => o
def laidunicodeutf8acceptRanges : Array Value := #[.int .u8 128, .int .u8 191, .int .u8 160, .int .u8 191, .int .u8 128, .int .u8 159, .int .u8 144, .int .u8 191, .int .u8 128, .int .u8 143, .int .u8 0, .int .u8 0, .int .u8 0, .int .u8 0, .int .u8 0, .int .u8 0, .int .u8 0, .int .u8 0, .int .u8 0, .int .u8 0, .int .u8 0, .int .u8 0, .int .u8 0, .int .u8 0, .int .u8 0, .int .u8 0, .int .u8 0, .int .u8 0, .int .u8 0, .int .u8 0, .int .u8 0, .int .u8 0]
def laidmullionkeysspecials : Array Value := #[.string ⟨#[85, 112]⟩, .string ⟨#[27, 91]⟩, .string ⟨#[65]⟩, .string ⟨#[]⟩, .string ⟨#[68, 111, 119, 110]⟩, .string ⟨#[27, 91]⟩, .string ⟨#[66]⟩, .string ⟨#[]⟩, .string ⟨#[82, 105, 103, 104, 116]⟩, .string ⟨#[27, 91]⟩, .string ⟨#[67]⟩, .string ⟨#[]⟩, .string ⟨#[76, 101, 102, 116]⟩, .string ⟨#[27, 91]⟩, .string ⟨#[68]⟩, .string ⟨#[]⟩, .string ⟨#[72, 111, 109, 101]⟩, .string ⟨#[27, 91]⟩, .string ⟨#[72]⟩, .string ⟨#[49]⟩, .string ⟨#[69, 110, 100]⟩, .string ⟨#[27, 91]⟩, .string ⟨#[70]⟩, .string ⟨#[52]⟩, .string ⟨#[73, 110, 115, 101, 114, 116]⟩, .string ⟨#[27, 91]⟩, .string ⟨#[]⟩, .string ⟨#[50]⟩, .string ⟨#[68, 101, 108, 101, 116, 101]⟩, .string ⟨#[27, 91]⟩, .string ⟨#[]⟩, .string ⟨#[51]⟩, .string ⟨#[80, 97, 103, 101, 85, 112]⟩, .string ⟨#[27, 91]⟩, .string ⟨#[]⟩, .string ⟨#[53]⟩, .string ⟨#[80, 97, 103, 101, 68, 111, 119, 110]⟩, .string ⟨#[27, 91]⟩, .string ⟨#[]⟩, .string ⟨#[54]⟩, .string ⟨#[70, 49]⟩, .string ⟨#[27, 79]⟩, .string ⟨#[80]⟩, .string ⟨#[49, 49]⟩, .string ⟨#[70, 50]⟩, .string ⟨#[27, 79]⟩, .string ⟨#[81]⟩, .string ⟨#[49, 50]⟩, .string ⟨#[70, 51]⟩, .string ⟨#[27, 79]⟩, .string ⟨#[82]⟩, .string ⟨#[49, 51]⟩, .string ⟨#[70, 52]⟩, .string ⟨#[27, 79]⟩, .string ⟨#[83]⟩, .string ⟨#[49, 52]⟩, .string ⟨#[70, 53]⟩, .string ⟨#[27, 91]⟩, .string ⟨#[]⟩, .string ⟨#[49, 53]⟩, .string ⟨#[70, 54]⟩, .string ⟨#[27, 91]⟩, .string ⟨#[]⟩, .string ⟨#[49, 55]⟩, .string ⟨#[70, 55]⟩, .string ⟨#[27, 91]⟩, .string ⟨#[]⟩, .string ⟨#[49, 56]⟩, .string ⟨#[70, 56]⟩, .string ⟨#[27, 91]⟩, .string ⟨#[]⟩, .string ⟨#[49, 57]⟩, .string ⟨#[70, 57]⟩, .string ⟨#[27, 91]⟩, .string ⟨#[]⟩, .string ⟨#[50, 48]⟩, .string ⟨#[70, 49, 48]⟩, .string ⟨#[27, 91]⟩, .string ⟨#[]⟩, .string ⟨#[50, 49]⟩, .string ⟨#[70, 49, 49]⟩, .string ⟨#[27, 91]⟩, .string ⟨#[]⟩, .string ⟨#[50, 51]⟩, .string ⟨#[70, 49, 50]⟩, .string ⟨#[27, 91]⟩, .string ⟨#[]⟩, .string ⟨#[50, 52]⟩]
def laidmullionkeysmodifiers : Array Value := #[.int .i64 4, .string ⟨#[67, 45]⟩, .int .i64 2, .string ⟨#[77, 45]⟩, .int .i64 1, .string ⟨#[83, 45]⟩]
def laidmullionkeysnamed : Array Value := #[.int .i64 32, .string ⟨#[83, 112, 97, 99, 101]⟩, .int .i64 13, .string ⟨#[69, 110, 116, 101, 114]⟩, .int .i64 9, .string ⟨#[84, 97, 98]⟩, .int .i64 27, .string ⟨#[69, 115, 99, 97, 112, 101]⟩, .int .i64 127, .string ⟨#[66, 83, 112, 97, 99, 101]⟩, .int .i64 16777239, .string ⟨#[66, 84, 97, 98]⟩]
def laidunicodeutf8first : Array Value := #[.int .u8 240, .int .u8 240, .int .u8 240, .int .u8 240, .int .u8 240, .int .u8 240, .int .u8 240, .int .u8 240, .int .u8 240, .int .u8 240, .int .u8 240, .int .u8 240, .int .u8 240, .int .u8 240, .int .u8 240, .int .u8 240, .int .u8 240, .int .u8 240, .int .u8 240, .int .u8 240, .int .u8 240, .int .u8 240, .int .u8 240, .int .u8 240, .int .u8 240, .int .u8 240, .int .u8 240, .int .u8 240, .int .u8 240, .int .u8 240, .int .u8 240, .int .u8 240, .int .u8 240, .int .u8 240, .int .u8 240, .int .u8 240, .int .u8 240, .int .u8 240, .int .u8 240, .int .u8 240, .int .u8 240, .int .u8 240, .int .u8 240, .int .u8 240, .int .u8 240, .int .u8 240, .int .u8 240, .int .u8 240, .int .u8 240, .int .u8 240, .int .u8 240, .int .u8 240, .int .u8 240, .int .u8 240, .int .u8 240, .int .u8 240, .int .u8 240, .int .u8 240, .int .u8 240, .int .u8 240, .int .u8 240, .int .u8 240, .int .u8 240, .int .u8 240, .int .u8 240, .int .u8 240, .int .u8 240, .int .u8 240, .int .u8 240, .int .u8 240, .int .u8 240, .int .u8 240, .int .u8 240, .int .u8 240, .int .u8 240, .int .u8 240, .int .u8 240, .int .u8 240, .int .u8 240, .int .u8 240, .int .u8 240, .int .u8 240, .int .u8 240, .int .u8 240, .int .u8 240, .int .u8 240, .int .u8 240, .int .u8 240, .int .u8 240, .int .u8 240, .int .u8 240, .int .u8 240, .int .u8 240, .int .u8 240, .int .u8 240, .int .u8 240, .int .u8 240, .int .u8 240, .int .u8 240, .int .u8 240, .int .u8 240, .int .u8 240, .int .u8 240, .int .u8 240, .int .u8 240, .int .u8 240, .int .u8 240, .int .u8 240, .int .u8 240, .int .u8 240, .int .u8 240, .int .u8 240, .int .u8 240, .int .u8 240, .int .u8 240, .int .u8 240, .int .u8 240, .int .u8 240, .int .u8 240, .int .u8 240, .int .u8 240, .int .u8 240, .int .u8 240, .int .u8 240, .int .u8 240, .int .u8 240, .int .u8 240, .int .u8 240, .int .u8 241, .int .u8 241, .int .u8 241, .int .u8 241, .int .u8 241, .int .u8 241, .int .u8 241, .int .u8 241, .int .u8 241, .int .u8 241, .int .u8 241, .int .u8 241, .int .u8 241, .int .u8 241, .int .u8 241, .int .u8 241, .int .u8 241, .int .u8 241, .int .u8 241, .int .u8 241, .int .u8 241, .int .u8 241, .int .u8 241, .int .u8 241, .int .u8 241, .int .u8 241, .int .u8 241, .int .u8 241, .int .u8 241, .int .u8 241, .int .u8 241, .int .u8 241, .int .u8 241, .int .u8 241, .int .u8 241, .int .u8 241, .int .u8 241, .int .u8 241, .int .u8 241, .int .u8 241, .int .u8 241, .int .u8 241, .int .u8 241, .int .u8 241, .int .u8 241, .int .u8 241, .int .u8 241, .int .u8 241, .int .u8 241, .int .u8 241, .int .u8 241, .int .u8 241, .int .u8 241, .int .u8 241, .int .u8 241, .int .u8 241, .int .u8 241, .int .u8 241, .int .u8 241, .int .u8 241, .int .u8 241, .int .u8 241, .int .u8 241, .int .u8 241, .int .u8 241, .int .u8 241, .int .u8 2, .int .u8 2, .int .u8 2, .int .u8 2, .int .u8 2, .int .u8 2, .int .u8 2, .int .u8 2, .int .u8 2, .int .u8 2, .int .u8 2, .int .u8 2, .int .u8 2, .int .u8 2, .int .u8 2, .int .u8 2, .int .u8 2, .int .u8 2, .int .u8 2, .int .u8 2, .int .u8 2, .int .u8 2, .int .u8 2, .int .u8 2, .int .u8 2, .int .u8 2, .int .u8 2, .int .u8 2, .int .u8 2, .int .u8 2, .int .u8 19, .int .u8 3, .int .u8 3, .int .u8 3, .int .u8 3, .int .u8 3, .int .u8 3, .int .u8 3, .int .u8 3, .int .u8 3, .int .u8 3, .int .u8 3, .int .u8 3, .int .u8 35, .int .u8 3, .int .u8 3, .int .u8 52, .int .u8 4, .int .u8 4, .int .u8 4, .int .u8 68, .int .u8 241, .int .u8 241, .int .u8 241, .int .u8 241, .int .u8 241, .int .u8 241, .int .u8 241, .int .u8 241, .int .u8 241, .int .u8 241, .int .u8 241]
noncomputable def laidWorld (os : Os) : World :=
  { World.holding Tryd.prog os ⟨#[], #[], []⟩ with heap := ((((((World.holding Tryd.prog os ⟨#[], #[], []⟩).heap.modify 4 (withCells laidunicodeutf8acceptRanges)).modify 0 (withCells laidmullionkeysspecials)).modify 1 (withCells laidmullionkeysmodifiers)).modify 2 (withCells laidmullionkeysnamed)).modify 3 (withCells laidunicodeutf8first)) }
theorem laid_met (os : Os) : laidMetH Tryd.prog Rows.keysBackRow.laid ((laidWorld os).forCall (fun _ _ => 0) ⟨#[], #[.agg #[.int .i64 0, .int .i64 0], .string .empty], []⟩).memory :=
  laidMet_of_fresh 8 (by kernel_rfl) (by kernel_rfl)
theorem reads (os : Os) {H : Type} (enc : TypeId × Value → H) : ∃ places, DataW.whole enc Tryd.prog ((laidWorld os).forCall (fun _ _ => 0) ⟨#[], #[.agg #[.int .i64 0, .int .i64 0], .string .empty], []⟩).memory Tryd.f5.params.toList Rows.keysBackSpec.vars false #[Value.agg #[.int .i64 0, .int .i64 0], Value.string .empty].toList 8 = some ([.agg [.lit (.int .i64 0), .lit (.int .i64 0)], .lit (.string [])], [], places) :=
  ⟨[], by kernel_rfl⟩

theorem lifted (os : Os) (started : os.Started) (H : Type) (enc : TypeId × Value → H) (F : Stop.Interp) :
    ReturnsInHanded {} Tryd.checked os 5 .any ((OpenSpec.ofChange Rows.keysBackSpec).preRow enc Tryd.prog Tryd.f5 Rows.keysBackRow.domain false Rows.keysBackRow.laid) (((OpenSpec.ofChange Rows.keysBackSpec).at F).post enc Tryd.prog Tryd.f5 false true false false) := by
  obtain ⟨places, hx⟩ := reads os enc
  refine returnsInHanded_of_row (C := Tryd.checked) (s := (OpenSpec.ofChange Rows.keysBackSpec)) own started (by kernel_rfl) Tryd.func5
    (witness_row_atRef (enc := enc) (C := Tryd.checked) false (laidWorld os) #[.agg #[.int .i64 0, .int .i64 0], .string .empty] rfl (by kernel_rfl) (by kernel_rfl) (by kernel_rfl)
      (OpenSpec.preRow_of_cond 8 hx (by kernel_rfl) (fun k hk => by cases hk) (by kernel_rfl) (laid_met os))) ?_
  intro W base args ds gs before hval hW _ hcond hsz hL hS _
  exact contract H enc W base args ds gs before hval hW hL hS _ hsz rfl

theorem said : Rows.KeysBackSaid :=
  OpenClaim.holds_of_cond 5 Tryd.f5 rfl rfl rfl rfl rfl rfl rfl ⟨rfl, rfl, rfl, rfl, rfl⟩ rfl rfl rfl rfl rfl (by kernel_rfl) Tryd.func5 (by kernel_rfl)
    (of_decide_eq_true (by kernel_rfl)) (by unfold Func.isWrapper; first | (rw [if_pos (by decide +kernel)]; kernel_rfl) | (rw [if_neg (by decide +kernel)]; exact ⟨rfl, rfl⟩))
    (fun os started H enc _ F => by rw [OpenClaim.pre_eq_preRow]; exact lifted os started H enc F)

theorem plain (f : FuncId) (fn : Func) (hf : Tryd.pinned.checked.prog.funcNamed "mullion/mullionlaw21.KeysBack" = some f) (hfn : Tryd.pinned.checked.prog.funcs[f]? = some fn) :
    false = Tryd.pinned.checked.prog.looks [] ∧ ∀ (j : Nat) t, fn.params[j]? = some t → Tryd.pinned.checked.prog.wantsStandIn t = false := by
  obtain rfl : f = 5 := Option.some.inj ((show Tryd.prog.funcNamed "mullion/mullionlaw21.KeysBack" = some 5 by kernel_rfl).symm.trans hf) |>.symm
  obtain rfl : fn = Tryd.f5 := (Option.some.inj (Tryd.func5.symm.trans hfn)).symm
  refine ⟨by kernel_rfl, fun j t ht => ?_⟩
  rw [Tryd.params5] at ht
  have hm : t ∈ #[30, 9] := Array.mem_of_getElem? ht
  have hs : ∀ t ∈ #[30, 9], Tryd.prog.wantsStandIn t = false := by
    intro t ht
    simp at ht
    rcases ht with rfl | rfl
    all_goals exact (by kernel_rfl)
  exact hs t hm
end Go.Proofs.YtjccpbodgbkcfaaDoor.keysBack
namespace Go.Proofs.YtjccpbodgbkcfaaDoor
theorem keysBack_card : Rows.KeysBackCardSaid :=
  Claim7.holds_tied_plain_at .later [] _ _ _ _ keysBack.said (fun _ h => by cases h) (by kernel_rfl) (fun _ h => by cases h) keysBack_row_tie rfl ⟨rfl, rfl⟩ (by kernel_rfl) rfl keysBack.plain (by kernel_rfl)
#print axioms keysBack_card
end Go.Proofs.YtjccpbodgbkcfaaDoor
