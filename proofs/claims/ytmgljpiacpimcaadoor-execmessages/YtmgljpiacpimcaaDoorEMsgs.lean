/-
  The proof of 'ExecMessages': its row's step round the walk, and its card.
-/
import Derived.Test.YtmgljpiacpimcaaDoorCards
import Derived.Test.YtmgljpiacpimcaaDoorTie
import Derived.Test.YtmgljpiacpimcaaDoorEMsgW
import Derived.WalkKit
import Derived.ProofKit
import Derived.OpenShut
import Derived.ShutString
import Derived.Deep.DeepHandedRow
import Derived.Lib.LaidTab
import Derived.SizedLaws
import Derived.Stop.LaidErr
import Derived.LaidLaws
import Derived.ChangeArms
import Derived.Carry
namespace Go.Proofs.YtmgljpiacpimcaaDoor.execMessages
open Go.ChangeShapes Go.WideShapes Go.ChangeAt Go.RowKit
open Go.ChangeMaps (open_string shut_string)
set_option linter.unusedVariables false
set_option maxRecDepth 100000

theorem own : ownKnob Tryd.prog.godebug = none := by kernel_rfl
theorem gP : Tryd.prog.globalNamed "internal/strconv.uint64pow10" = some 1 := by kernel_rfl
theorem gPType : (Tryd.prog.globals[1]?).map (·.type) = some 43 := by kernel_rfl
theorem cellsP : Tryd.prog.cellsOf 43 = 20 := by kernel_rfl
theorem cellsU : Tryd.prog.cellsOf 36 = 1 := by kernel_rfl
theorem cells9 : Tryd.prog.cellsOf 9 = 1 := by kernel_rfl
theorem cells23 : Tryd.prog.cellsOf 23 = 1 := by kernel_rfl
theorem gY : Tryd.prog.globalNamed "mullion/exec.sayings" = some 0 := by kernel_rfl
theorem gYType : (Tryd.prog.globals[0]?).map (·.type) = some 30 := by kernel_rfl
theorem cellsY : Tryd.prog.cellsOf 30 = 62 := by kernel_rfl
theorem cellsZ : Tryd.prog.cellsOf 29 = 2 := by kernel_rfl
theorem nums {W : World} (h : laidMetH Tryd.prog Rows.execMessagesRow.laid W) : NumV W := by
  have hL : laidMet Tryd.prog Rows.execMessagesRow.laid W := h
  have hP := Lib.tabIs_of_head (zs := Lib.pow10Tab) gP gPType Tryd.underlying43 Tryd.underlying36 cellsU cellsP (show laidMet Tryd.prog (("internal/strconv.uint64pow10", Lib.tabData .u64 Lib.pow10Tab) :: _) W from hL.tail.tail)
  exact ⟨hP⟩
theorem say_one {H : Type} {enc : TypeId × Value → H} {W : World} {base : Nat} {sp : Nat → Bool} {held : Bool} {fuel : Nat} {cs : List Value} {x : DataW H × List MemPlace} (h : DataW.trod enc Tryd.prog W base sp held fuel 29 cs = some x) : ∃ z b, cs = [.int .i64 z, .string b] ∧ x.1 = .agg [.lit (.int .i64 z), .lit (.string b.data.toList)] := by
  obtain ⟨xs, n, _, hx, hl, hlen, hfs⟩ := DataW.trod_struct Tryd.underlying29 h
  rw [cellsZ] at hl
  match cs, hl, xs, hlen with
  | [c0, c1], _, [y0, y1], _ =>
    have t0 : DataW.trod enc Tryd.prog W base sp held n 23 [c0] = some y0 := by have h := hfs 0 _ rfl; simpa [cells23] using h
    have t1 : DataW.trod enc Tryd.prog W base sp held n 9 [c1] = some y1 := by have h := hfs 1 _ rfl; simpa [cells9] using h
    obtain ⟨z0, e0, rfl, w0⟩ := DataW.trod_int Tryd.underlying23 t0
    obtain ⟨z1, e1, rfl, _⟩ := DataW.trod_string Tryd.underlying9 t1
    obtain rfl := (List.cons.inj e0).1
    obtain rfl := (List.cons.inj e1).1
    exact ⟨z0, z1, rfl, by rw [hx]; rfl⟩
theorem say_flat : ∀ k : Fin 31, ∃ a b, sayT[k.val]? = some (a, b) ∧ sayCs[2 * k.val]? = some (.int .i64 a) ∧ sayCs[2 * k.val + 1]? = some (.string (str b)) := by
  intro k
  match k with
  | ⟨0, _⟩ => exact ⟨_, _, rfl, rfl, rfl⟩
  | ⟨1, _⟩ => exact ⟨_, _, rfl, rfl, rfl⟩
  | ⟨2, _⟩ => exact ⟨_, _, rfl, rfl, rfl⟩
  | ⟨3, _⟩ => exact ⟨_, _, rfl, rfl, rfl⟩
  | ⟨4, _⟩ => exact ⟨_, _, rfl, rfl, rfl⟩
  | ⟨5, _⟩ => exact ⟨_, _, rfl, rfl, rfl⟩
  | ⟨6, _⟩ => exact ⟨_, _, rfl, rfl, rfl⟩
  | ⟨7, _⟩ => exact ⟨_, _, rfl, rfl, rfl⟩
  | ⟨8, _⟩ => exact ⟨_, _, rfl, rfl, rfl⟩
  | ⟨9, _⟩ => exact ⟨_, _, rfl, rfl, rfl⟩
  | ⟨10, _⟩ => exact ⟨_, _, rfl, rfl, rfl⟩
  | ⟨11, _⟩ => exact ⟨_, _, rfl, rfl, rfl⟩
  | ⟨12, _⟩ => exact ⟨_, _, rfl, rfl, rfl⟩
  | ⟨13, _⟩ => exact ⟨_, _, rfl, rfl, rfl⟩
  | ⟨14, _⟩ => exact ⟨_, _, rfl, rfl, rfl⟩
  | ⟨15, _⟩ => exact ⟨_, _, rfl, rfl, rfl⟩
  | ⟨16, _⟩ => exact ⟨_, _, rfl, rfl, rfl⟩
  | ⟨17, _⟩ => exact ⟨_, _, rfl, rfl, rfl⟩
  | ⟨18, _⟩ => exact ⟨_, _, rfl, rfl, rfl⟩
  | ⟨19, _⟩ => exact ⟨_, _, rfl, rfl, rfl⟩
  | ⟨20, _⟩ => exact ⟨_, _, rfl, rfl, rfl⟩
  | ⟨21, _⟩ => exact ⟨_, _, rfl, rfl, rfl⟩
  | ⟨22, _⟩ => exact ⟨_, _, rfl, rfl, rfl⟩
  | ⟨23, _⟩ => exact ⟨_, _, rfl, rfl, rfl⟩
  | ⟨24, _⟩ => exact ⟨_, _, rfl, rfl, rfl⟩
  | ⟨25, _⟩ => exact ⟨_, _, rfl, rfl, rfl⟩
  | ⟨26, _⟩ => exact ⟨_, _, rfl, rfl, rfl⟩
  | ⟨27, _⟩ => exact ⟨_, _, rfl, rfl, rfl⟩
  | ⟨28, _⟩ => exact ⟨_, _, rfl, rfl, rfl⟩
  | ⟨29, _⟩ => exact ⟨_, _, rfl, rfl, rfl⟩
  | ⟨30, _⟩ => exact ⟨_, _, rfl, rfl, rfl⟩
  | ⟨k + 31, h⟩ => exact absurd h (by omega)
theorem say_data : Rows.laid_mullion_exec_sayings = (DataW.agg (sayT.map fun p => .agg [.lit (.int .i64 p.1), .lit (.string p.2)]) : DataW Unit) := rfl
theorem say_cells {enc : TypeId × Value → Unit} {W : World} {base : Nat} {sp : Nat → Bool} {held : Bool} {fuel : Nat} {cs : List Value} {p : List MemPlace} (h : DataW.trod enc Tryd.prog W base sp held fuel 30 cs = some (Rows.laid_mullion_exec_sayings, p)) : cs = sayCs := by
  rw [say_data] at h
  cases fuel with
  | zero => simp [DataW.trod] at h
  | succ fuel =>
    simp only [DataW.trod, Tryd.underlying30, cellsZ, cellsY] at h
    split at h
    · rename_i hl
      obtain ⟨xs, hm, hx⟩ := Option.map_eq_some_iff.1 h
      have hxs : xs.map (·.1) = sayT.map fun p => (DataW.agg [.lit (.int .i64 p.1), .lit (.string p.2)] : DataW Unit) := by
        have := congrArg Prod.fst hx
        simpa using this
      have each : ∀ i, i < 31 → cs[2 * i]? = sayCs[2 * i]? ∧ cs[2 * i + 1]? = sayCs[2 * i + 1]? := fun i hi => by
        obtain ⟨b, hb, hf⟩ := Lib.mapM_at hm i i (by simp [hi])
        obtain ⟨z, y, hc, he⟩ := say_one hf
        obtain ⟨a, t, k1, k2, k3⟩ := say_flat ⟨i, hi⟩
        have h2 : (xs.map (·.1))[i]? = some b.1 := by simp [hb]
        rw [hxs, List.getElem?_map, k1, he] at h2
        simp only [Option.map_some, Option.some.injEq, DataW.agg.injEq, List.cons.injEq, DataW.lit.injEq, Lit.int.injEq, Lit.string.injEq, and_true, true_and] at h2
        obtain ⟨e1, e2⟩ := h2
        have g0 : cs[2 * i]? = some (.int .i64 z) := by
          have := congrArg (·[0]?) hc
          simpa [List.getElem?_take, List.getElem?_drop, Nat.mul_comm] using this
        have g1 : cs[2 * i + 1]? = some (.string y) := by
          have := congrArg (·[1]?) hc
          simpa [List.getElem?_take, List.getElem?_drop, Nat.mul_comm] using this
        rw [g0, g1, k2, k3, e1, e2, data_str]
        exact ⟨rfl, rfl⟩
      apply List.ext_getElem?
      intro j
      by_cases hj : j < 62
      · have h := each (j / 2) (by omega)
        rcases Nat.mod_two_eq_zero_or_one j with hp | hp
        · have e : 2 * (j / 2) = j := by omega
          rw [e] at h
          exact h.1
        · have e : 2 * (j / 2) + 1 = j := by omega
          rw [e] at h
          exact h.2
      · have hlen : cs.length = 62 := by simpa using hl
        rw [List.getElem?_eq_none (by omega), List.getElem?_eq_none (by show sayCs.length ≤ j; have : sayCs.length = 62 := rfl; omega)]
    · cases h
theorem says {W : World} (h : laidMetH Tryd.prog Rows.execMessagesRow.laid W) : SayV W := by
  have hL : laidMet Tryd.prog Rows.execMessagesRow.laid W := h
  obtain ⟨ps, ⟨g', t', cs, fuel, p, q, hg', ht', hvar, hd, _, _⟩, _⟩ := hL.tail.tail.tail
  obtain rfl := Option.some.inj (gY.symm.trans hg')
  obtain rfl := Option.some.inj (gYType.symm.trans ht')
  have hc := say_cells hd
  intro j v hv
  have hx := World.var?_cell gY hvar j
  rw [Nat.zero_add, hx, ← Array.getElem?_toList, hc]
  exact hv

theorem contract (H : Type) (enc : TypeId × Value → H) (W : World) (base : Nat) (args : Array Value) (ds gs : List (DataW H)) (before : List MemPlace)
    (hval : ∀ (j : Nat) t v, Tryd.f3.params[j]? = some t → args[j]? = some v → Value.okWide Tryd.prog W .any base t v)
    (hW : DataW.Whole enc Tryd.prog Tryd.f3.params.toList Rows.execMessagesSpec.vars false W args.toList ds gs before) (hL : laidMetH Tryd.prog Rows.execMessagesRow.laid W) (ts : List TypeId) (hsz : (DataW.weightsEach Tryd.prog ts (ds ++ gs)).all (· ≤ reachBytes) = true) (ht1 : ts[1]? = some 9) :
    Calls Tryd.prog 3 args W fun e W' => ∃ v, e = .returned v ∧ Rows.execMessagesSpec.post enc Tryd.prog Tryd.f3 false true false false W args v W' := by
  have hW' := hW
  obtain ⟨p, q, hA0, hV, rfl, hfz, hnd⟩ := hW
  have hA : DataW.TrodAll enc Tryd.prog W 0 (fun _ => true) true Tryd.f3.params.toList args.toList ds p := hA0
  rw [Tryd.params3] at hA hval
  obtain ⟨v0, vs0, d0, ds0, p0, q0, hargs, rfl, rfl, h0, r0⟩ := trodAll_cons hA
  obtain ⟨v1, vs1, d1, ds1, p1, q1, rfl, rfl, rfl, h1, r1⟩ := trodAll_cons r0
  obtain ⟨rfl, rfl, rfl⟩ := trodAll_nil r1
  obtain rfl : args = #[v0, v1] := by cases args; simp_all
  obtain ⟨rfl, rfl⟩ := trodVars_none hV
  obtain ⟨a0, rfl, rfl, rfl, w0⟩ := open_int Tryd.underlying3 (hval 0 3 v0 rfl rfl) h0
  obtain ⟨a1, rfl, rfl, rfl, w1⟩ := open_string Tryd.underlying9 (hval 1 9 v1 rfl rfl) h1
  clear hA0
  simp only [List.append_nil] at hW'
  have hs1 : a1.size ≤ 140737488351232 := by have h := sized_string hsz (j := 1) (t := 9) ht1 rfl; rw [Array.length_toList] at h; exact h
  refine (execMessages_walk a0 a1 W (nums hL) (says hL) (bounds_i64 w0).1 (bounds_i64 w0).2 hs1).mono fun e W' ⟨he, hg⟩ => ?_
  subst he
  exact ⟨_, rfl, _, _, _, [], _, [], hW', trodAll_mk1 (shut_bool Tryd.underlying4 _), (trodAll_cons_mk (shut_int Tryd.underlying3 w0) (trodAll_cons_mk (shut_string Tryd.underlying9 w1) trodAll_mk0)), rfl, hg.frame _, fun h => by cases h⟩

def withCells (cs : Array Value) : Obj → Obj
  | .cells _ t frozen => .cells cs t frozen
  | o => o
noncomputable def laidWorld (os : Os) : World :=
  { World.holding Tryd.prog os ⟨#[], #[], []⟩ with heap := ((((World.holding Tryd.prog os ⟨#[], #[], []⟩).heap.modify 0 (withCells sayCs.toArray)).modify 1 (withCells #[.int .u64 1, .int .u64 10, .int .u64 100, .int .u64 1000, .int .u64 10000, .int .u64 100000, .int .u64 1000000, .int .u64 10000000, .int .u64 100000000, .int .u64 1000000000, .int .u64 10000000000, .int .u64 100000000000, .int .u64 1000000000000, .int .u64 10000000000000, .int .u64 100000000000000, .int .u64 1000000000000000, .int .u64 10000000000000000, .int .u64 100000000000000000, .int .u64 1000000000000000000, .int .u64 10000000000000000000])).modify 2 (withCells #[.int .u8 0, .int .u8 1, .int .u8 28, .int .u8 2, .int .u8 29, .int .u8 14, .int .u8 24, .int .u8 3, .int .u8 30, .int .u8 22, .int .u8 20, .int .u8 15, .int .u8 25, .int .u8 17, .int .u8 4, .int .u8 8, .int .u8 31, .int .u8 27, .int .u8 13, .int .u8 23, .int .u8 21, .int .u8 19, .int .u8 16, .int .u8 7, .int .u8 26, .int .u8 12, .int .u8 18, .int .u8 6, .int .u8 11, .int .u8 5, .int .u8 10, .int .u8 9])).modify 3 (withCells #[.int .u8 0, .int .u8 1, .int .u8 56, .int .u8 2, .int .u8 57, .int .u8 49, .int .u8 28, .int .u8 3, .int .u8 61, .int .u8 58, .int .u8 42, .int .u8 50, .int .u8 38, .int .u8 29, .int .u8 17, .int .u8 4, .int .u8 62, .int .u8 47, .int .u8 59, .int .u8 36, .int .u8 45, .int .u8 43, .int .u8 51, .int .u8 22, .int .u8 53, .int .u8 39, .int .u8 33, .int .u8 30, .int .u8 24, .int .u8 18, .int .u8 12, .int .u8 5, .int .u8 63, .int .u8 55, .int .u8 48, .int .u8 27, .int .u8 60, .int .u8 41, .int .u8 37, .int .u8 16, .int .u8 46, .int .u8 35, .int .u8 44, .int .u8 21, .int .u8 52, .int .u8 32, .int .u8 23, .int .u8 11, .int .u8 54, .int .u8 26, .int .u8 40, .int .u8 15, .int .u8 34, .int .u8 20, .int .u8 31, .int .u8 10, .int .u8 25, .int .u8 14, .int .u8 19, .int .u8 9, .int .u8 13, .int .u8 8, .int .u8 7, .int .u8 6]) }
theorem laid_met (os : Os) : laidMet Tryd.prog Rows.execMessagesRow.laid ((laidWorld os).forCall (fun _ _ => 0) ⟨#[], #[.int .i64 0, .string .empty], []⟩).memory :=
  laidMet_of_run' 8 (by kernel_rfl) (by kernel_rfl)
theorem reads (os : Os) {H : Type} (enc : TypeId × Value → H) : ∃ places, DataW.whole enc Tryd.prog ((laidWorld os).forCall (fun _ _ => 0) ⟨#[], #[.int .i64 0, .string .empty], []⟩).memory Tryd.f3.params.toList Rows.execMessagesSpec.vars false #[Value.int .i64 0, Value.string .empty].toList 8 = some ([.lit (.int .i64 0), .lit (.string [])], [], places) :=
  ⟨[], by kernel_rfl⟩

set_option maxRecDepth 100000 in
theorem lifted (os : Os) (started : os.Started) (H : Type) (enc : TypeId × Value → H) (F : Stop.Interp) :
    ReturnsInHanded {} Tryd.checked os 3 .any ((OpenSpec.ofChange Rows.execMessagesSpec).preRow enc Tryd.prog Tryd.f3 Rows.execMessagesRow.domain false Rows.execMessagesRow.laid) (((OpenSpec.ofChange Rows.execMessagesSpec).at F).post enc Tryd.prog Tryd.f3 false true false false) := by
  obtain ⟨places, hx⟩ := reads os enc
  refine returnsInHanded_of_row (C := Tryd.checked) (s := (OpenSpec.ofChange Rows.execMessagesSpec)) own started (by kernel_rfl) Tryd.func3
    (witness_row_at (enc := enc) (C := Tryd.checked) false (laidWorld os) #[.int .i64 0, .string .empty] rfl (by kernel_rfl) (by kernel_rfl) (by kernel_rfl)
      (OpenSpec.preRow_of_cond 8 hx (by kernel_rfl) (fun k hk => by cases hk) (by kernel_rfl) (laid_met os))) ?_
  intro W base args ds gs before hval hW _ hcond hsz hL _ _
  exact contract H enc W base args ds gs before hval hW hL _ hsz rfl

theorem said : Rows.ExecMessagesSaid :=
  OpenClaim.holds_of_cond 3 Tryd.f3 rfl rfl rfl rfl rfl rfl rfl ⟨rfl, rfl, rfl, rfl, rfl⟩ rfl rfl rfl rfl rfl (by kernel_rfl) Tryd.func3 (by kernel_rfl)
    (of_decide_eq_true (by kernel_rfl)) (by unfold Func.isWrapper; first | (rw [if_pos (by decide +kernel)]; kernel_rfl) | (rw [if_neg (by decide +kernel)]; exact ⟨rfl, rfl⟩))
    (fun os started H enc _ F => by rw [OpenClaim.pre_eq_preRow]; exact lifted os started H enc F)

theorem plain (f : FuncId) (fn : Func) (hf : Tryd.pinned.checked.prog.funcNamed "mullion/mullionlaw13.ExecMessages" = some f) (hfn : Tryd.pinned.checked.prog.funcs[f]? = some fn) :
    false = Tryd.pinned.checked.prog.looks [] ∧ ∀ (j : Nat) t, fn.params[j]? = some t → Tryd.pinned.checked.prog.wantsStandIn t = false := by
  obtain rfl : f = 3 := Option.some.inj ((show Tryd.prog.funcNamed "mullion/mullionlaw13.ExecMessages" = some 3 by kernel_rfl).symm.trans hf) |>.symm
  obtain rfl : fn = Tryd.f3 := (Option.some.inj (Tryd.func3.symm.trans hfn)).symm
  refine ⟨by kernel_rfl, fun j t ht => ?_⟩
  rw [Tryd.params3] at ht
  have hm : t ∈ #[3, 9] := Array.mem_of_getElem? ht
  have hs : ∀ t ∈ #[3, 9], Tryd.prog.wantsStandIn t = false := by
    intro t ht
    simp at ht
    rcases ht with rfl | rfl
    all_goals exact (by kernel_rfl)
  exact hs t hm
end Go.Proofs.YtmgljpiacpimcaaDoor.execMessages
namespace Go.Proofs.YtmgljpiacpimcaaDoor
theorem execMessages_card : Rows.ExecMessagesCardSaid :=
  Claim7.holds_tied_plain_at .later [] _ _ _ _ execMessages.said (fun _ h => by cases h) (by kernel_rfl) (fun _ h => by cases h) execMessages_row_tie rfl ⟨rfl, rfl⟩ (by kernel_rfl) rfl execMessages.plain (by kernel_rfl)
#print axioms execMessages_card
end Go.Proofs.YtmgljpiacpimcaaDoor
