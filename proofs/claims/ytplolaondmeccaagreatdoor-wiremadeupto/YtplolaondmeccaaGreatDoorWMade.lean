/-
  The proof of 'WireMadeUpto': its row's step round the walk, and its card.
-/
import Derived.Test.YtplolaondmeccaaGreatDoorCards
import Derived.Test.YtplolaondmeccaaGreatDoorTie
import Derived.Test.YtplolaondmeccaaGreatDoorWOpenP
import Derived.WalkKit
import Derived.ProofKit
import Derived.OpenShut
import Derived.ShutString
import Derived.Deep.DeepHandedRow
import Derived.Deep.DeepWitnessRowRef
import Derived.Test.YtplolaondmeccaaGreatDoorWLaid
import Derived.Lib.LaidTab
import Derived.SizedLaws
import Derived.Stop.LaidErr
import Derived.LaidLaws
import Derived.Carry
namespace Go.Proofs.YtplolaondmeccaaGreatDoor.wireMade
open Go.ChangeShapes Go.WideShapes Go.ChangeAt Go.RowKit
open Go.ChangeMaps (open_string shut_string)
set_option linter.unusedVariables false

theorem own : ownKnob Tryz.prog.godebug = none := by kernel_rfl
theorem gP : Tryz.prog.globalNamed "internal/strconv.uint64pow10" = some 9 := by kernel_rfl
theorem gPType : (Tryz.prog.globals[9]?).map (·.type) = some 196 := by kernel_rfl
theorem cellsP : Tryz.prog.cellsOf 196 = 20 := by kernel_rfl
theorem cellsU : Tryz.prog.cellsOf 185 = 1 := by kernel_rfl
theorem gES : Tryz.prog.globalNamed "strconv.ErrSyntax" = some 7 := by kernel_rfl
theorem gESType : (Tryz.prog.globals[7]?).map (·.type) = some 84 := by kernel_rfl
theorem gER : Tryz.prog.globalNamed "strconv.ErrRange" = some 8 := by kernel_rfl
theorem gERType : (Tryz.prog.globals[8]?).map (·.type) = some 84 := by kernel_rfl
theorem cellsS : Tryz.prog.cellsOf 202 = 1 := by kernel_rfl
theorem cells9 : Tryz.prog.cellsOf 9 = 1 := by kernel_rfl
theorem star : "*" ++ "errors.errorString" = "*errors.errorString" := by decide
theorem rowE (u : TypeId) (h : Tryz.prog.typeName? 3 u = some "*errors.errorString") : u = 200 :=
  typeName_ptr_named (nm := "errors.errorString") (by rw [star]; kernel_rfl) (by kernel_rfl) (by decide) u (by rw [star]; exact h)
theorem gD : Tryz.prog.globalNamed "mullion/octal.digits" = some 4 := by kernel_rfl
theorem gDType : (Tryz.prog.globals[4]?).map (·.type) = some 144 := by kernel_rfl
theorem cellsD : Tryz.prog.cellsOf 144 = 8 := by kernel_rfl
theorem cells5 : Tryz.prog.cellsOf 5 = 1 := by kernel_rfl
theorem gH : Tryz.prog.globalNamed "mullion/wire.heads" = some 0 := by kernel_rfl
theorem gHType : (Tryz.prog.globals[0]?).map (·.type) = some 55 := by kernel_rfl
theorem cellsH : Tryz.prog.cellsOf 55 = 25 := by kernel_rfl

/-- A table of texts, as it is listed. -/
def strData {H : Type} (zs : List (List UInt8)) : DataW H := .agg (zs.map fun z => .lit (.string z))
theorem cells_of_strs {H : Type} {enc : TypeId × Value → H} {P : Program} {w : World} {base : Nat} {sp : Nat → Bool} {held : Bool} {fuel : Nat} {t e : TypeId} {n : Nat} {cs : List Value} {zs : List (List UInt8)} {p : List MemPlace}
    (ht : P.underlying t = some (.array n e)) (he : P.underlying e = some .string) (hce : P.cellsOf e = 1) (hct : P.cellsOf t = n)
    (h : DataW.trod enc P w base sp held fuel t cs = some (strData zs, p)) : cs = zs.map fun z => Value.string (str z) := by
  cases fuel with
  | zero => simp [DataW.trod] at h
  | succ fuel =>
    simp only [DataW.trod, ht, hce, hct, Nat.mul_one] at h
    split at h
    · rename_i hl
      obtain ⟨xs, hm, hx⟩ := Option.map_eq_some_iff.1 h
      have hxs : xs.map (·.1) = zs.map fun z => (DataW.lit (.string z) : DataW H) := by
        have := congrArg Prod.fst hx
        simpa [strData] using this
      have hxl : xs.length = n := by simpa using Lib.mapM_length hm
      have hzl : zs.length = n := by
        have := congrArg List.length hxs
        simp at this
        omega
      apply List.ext_getElem?
      intro i
      by_cases hi : i < n
      · obtain ⟨b, hb, hf⟩ := Lib.mapM_at hm i i (by simp [hi])
        obtain ⟨z, hc, rfl, _⟩ := DataW.trod_string he hf
        have h1 : cs[i]? = some (.string z) := by
          have := congrArg (·[0]?) hc
          simpa [List.getElem?_take, List.getElem?_drop] using this
        have h2 : (xs.map (·.1))[i]? = some (DataW.lit (.string z.data.toList) : DataW H) := by simp [hb]
        rw [hxs] at h2
        rw [List.getElem?_map] at h2 ⊢
        obtain ⟨z', hz', he'⟩ := Option.map_eq_some_iff.1 h2
        have e2 : z' = z.data.toList := by simpa using he'
        rw [h1, hz', e2]
        rfl
      · rw [List.getElem?_eq_none (by omega), List.getElem?_eq_none (by simp; omega)]
    · cases h

set_option maxRecDepth 100000 in
theorem heads {W : World} (h : laidMet Tryz.prog Rows.wireMadeUptoRow.laid W) : ∀ k : Nat, k < 25 → W.cell? ⟨0, k, none⟩ = some (.string (str (headOf k))) := by
  have h7 : laidMet Tryz.prog (("mullion/wire.heads", strData [[], [37, 98, 101, 103, 105, 110, 32], [37, 101, 110, 100, 32], [37, 101, 114, 114, 111, 114, 32], [], [37, 111, 117, 116, 112, 117, 116, 32], [37, 112, 97, 117, 115, 101, 32], [37, 99, 111, 110, 116, 105, 110, 117, 101, 32], [37, 112, 97, 110, 101, 45, 97, 100, 100, 32], [37, 112, 97, 110, 101, 45, 99, 108, 111, 115, 101, 32], [37, 119, 105, 110, 100, 111, 119, 45, 97, 100, 100, 32], [37, 119, 105, 110, 100, 111, 119, 45, 99, 108, 111, 115, 101, 32], [37, 119, 105, 110, 100, 111, 119, 45, 114, 101, 110, 97, 109, 101, 100, 32], [37, 108, 97, 121, 111, 117, 116, 45, 99, 104, 97, 110, 103, 101, 32], [37, 119, 105, 110, 100, 111, 119, 45, 112, 97, 110, 101, 45, 99, 104, 97, 110, 103, 101, 100, 32], [37, 115, 101, 115, 115, 105, 111, 110, 45, 97, 100, 100, 32], [37, 115, 101, 115, 115, 105, 111, 110, 45, 99, 108, 111, 115, 101, 32], [37, 115, 101, 115, 115, 105, 111, 110, 45, 114, 101, 110, 97, 109, 101, 100, 32], [37, 119, 105, 110, 100, 111, 119, 45, 108, 105, 110, 107, 32], [37, 119, 105, 110, 100, 111, 119, 45, 117, 110, 108, 105, 110, 107, 32], [37, 115, 101, 115, 115, 105, 111, 110, 45, 119, 105, 110, 100, 111, 119, 45, 99, 104, 97, 110, 103, 101, 100, 32], [37, 115, 101, 115, 115, 105, 111, 110, 45, 99, 104, 97, 110, 103, 101, 100, 32], [37, 115, 117, 98, 115, 99, 114, 105, 112, 116, 105, 111, 110, 45, 99, 104, 97, 110, 103, 101, 100, 32], [37, 109, 101, 115, 115, 97, 103, 101, 32], [37, 101, 120, 105, 116]]) :: _) W := h.tail.tail.tail.tail.tail.tail.tail.tail.tail
  obtain ⟨ps, ⟨g', t', cs, fuel, p, q, hg', ht', hvar, hd, _, _⟩, _⟩ := h7
  obtain rfl := Option.some.inj (gH.symm.trans hg')
  obtain rfl := Option.some.inj (gHType.symm.trans ht')
  have hc := cells_of_strs Tryz.underlying55 Tryz.underlying9 cells9 cellsH hd
  intro k hk
  have hx := World.var?_cell gH hvar k
  rw [hx]
  have he : cs.toList = [[], [37, 98, 101, 103, 105, 110, 32], [37, 101, 110, 100, 32], [37, 101, 114, 114, 111, 114, 32], [], [37, 111, 117, 116, 112, 117, 116, 32], [37, 112, 97, 117, 115, 101, 32], [37, 99, 111, 110, 116, 105, 110, 117, 101, 32], [37, 112, 97, 110, 101, 45, 97, 100, 100, 32], [37, 112, 97, 110, 101, 45, 99, 108, 111, 115, 101, 32], [37, 119, 105, 110, 100, 111, 119, 45, 97, 100, 100, 32], [37, 119, 105, 110, 100, 111, 119, 45, 99, 108, 111, 115, 101, 32], [37, 119, 105, 110, 100, 111, 119, 45, 114, 101, 110, 97, 109, 101, 100, 32], [37, 108, 97, 121, 111, 117, 116, 45, 99, 104, 97, 110, 103, 101, 32], [37, 119, 105, 110, 100, 111, 119, 45, 112, 97, 110, 101, 45, 99, 104, 97, 110, 103, 101, 100, 32], [37, 115, 101, 115, 115, 105, 111, 110, 45, 97, 100, 100, 32], [37, 115, 101, 115, 115, 105, 111, 110, 45, 99, 108, 111, 115, 101, 32], [37, 115, 101, 115, 115, 105, 111, 110, 45, 114, 101, 110, 97, 109, 101, 100, 32], [37, 119, 105, 110, 100, 111, 119, 45, 108, 105, 110, 107, 32], [37, 119, 105, 110, 100, 111, 119, 45, 117, 110, 108, 105, 110, 107, 32], [37, 115, 101, 115, 115, 105, 111, 110, 45, 119, 105, 110, 100, 111, 119, 45, 99, 104, 97, 110, 103, 101, 100, 32], [37, 115, 101, 115, 115, 105, 111, 110, 45, 99, 104, 97, 110, 103, 101, 100, 32], [37, 115, 117, 98, 115, 99, 114, 105, 112, 116, 105, 111, 110, 45, 99, 104, 97, 110, 103, 101, 100, 32], [37, 109, 101, 115, 115, 97, 103, 101, 32], [37, 101, 120, 105, 116]].map fun z => Value.string (str z) := hc
  rw [← Array.getElem?_toList, he, List.getElem?_map]
  rcases (show k = 0 ∨ k = 1 ∨ k = 2 ∨ k = 3 ∨ k = 4 ∨ k = 5 ∨ k = 6 ∨ k = 7 ∨ k = 8 ∨ k = 9 ∨ k = 10 ∨ k = 11 ∨ k = 12 ∨ k = 13 ∨ k = 14 ∨ k = 15 ∨ k = 16 ∨ k = 17 ∨ k = 18 ∨ k = 19 ∨ k = 20 ∨ k = 21 ∨ k = 22 ∨ k = 23 ∨ k = 24 by omega) with rfl | rfl | rfl | rfl | rfl | rfl | rfl | rfl | rfl | rfl | rfl | rfl | rfl | rfl | rfl | rfl | rfl | rfl | rfl | rfl | rfl | rfl | rfl | rfl | rfl <;> rfl

set_option maxRecDepth 100000 in
theorem env {W : World} (h : laidMetH Tryz.prog Rows.wireMadeUptoRow.laid W) (hs : W.ShapedOpen Tryz.prog) : Env W := by
  have hL : laidMet Tryz.prog Rows.wireMadeUptoRow.laid W := h
  have hP := Lib.tabIs_of_head (zs := Lib.pow10Tab) gP gPType Tryz.underlying196 Tryz.underlying185 cellsU cellsP (show laidMet Tryz.prog (("internal/strconv.uint64pow10", Lib.tabData .u64 Lib.pow10Tab) :: _) W from hL.tail.tail)
  obtain ⟨a0, s0, hv0, -, -, -⟩ := laid_sentinel hL.tail.tail.tail.tail gER gERType Tryz.underlying84 rowE Tryz.underlying200 Tryz.underlying202 rfl rfl Tryz.underlying9 cellsS cells9
  obtain ⟨a1, s1, hv1, -, -, -⟩ := laid_sentinel hL.tail.tail.tail.tail.tail gES gESType Tryz.underlying84 rowE Tryz.underlying200 Tryz.underlying202 rfl rfl Tryz.underlying9 cellsS cells9
  have hD := Lib.tabIs_of_head (zs := [48, 49, 50, 51, 52, 53, 54, 55]) gD gDType Tryz.underlying144 Tryz.underlying5 cells5 cellsD (show laidMet Tryz.prog (("mullion/octal.digits", Lib.tabData .u8 [48, 49, 50, 51, 52, 53, 54, 55]) :: _) W from hL.tail.tail.tail.tail.tail.tail.tail.tail)
  refine ⟨fun k hk => ?_, ⟨hP, ⟨_, _, hv1⟩, ⟨_, _, hv0⟩⟩, heads hL, ?_⟩
  · match k, hk with
    | 0, _ => exact hD.cell gD 0 (by decide)
    | 1, _ => exact hD.cell gD 1 (by decide)
    | 2, _ => exact hD.cell gD 2 (by decide)
    | 3, _ => exact hD.cell gD 3 (by decide)
    | 4, _ => exact hD.cell gD 4 (by decide)
    | 5, _ => exact hD.cell gD 5 (by decide)
    | 6, _ => exact hD.cell gD 6 (by decide)
    | 7, _ => exact hD.cell gD 7 (by decide)
  · exact Go.Proofs.cell_of_shapedOpen_int (zero := #[.int .i64 0]) (t := 3) hs (of_decide_eq_true (by kernel_rfl)) (by kernel_rfl) rfl (by kernel_rfl) (by kernel_rfl) Tryz.underlying3

theorem gA : Tryz.prog.globalNamed "strings.asciiSpace" = some 2 := by kernel_rfl
theorem gAType : (Tryz.prog.globals[2]?).map (·.type) = some 117 := by kernel_rfl
theorem cellsA : Tryz.prog.cellsOf 117 = 256 := by kernel_rfl
set_option maxRecDepth 100000 in
theorem spaces {W : World} (h : laidMetH Tryz.prog Rows.wireMadeUptoRow.laid W) : Spaces W := by
  have hL : laidMet Tryz.prog Rows.wireMadeUptoRow.laid W := h
  exact Lib.tabIs_of_head (zs := Lib.asciiSpaceTab) gA gAType Tryz.underlying117 Tryz.underlying5 cells5 cellsA (show laidMet Tryz.prog (("strings.asciiSpace", Lib.tabData .u8 Lib.asciiSpaceTab) :: _) W from hL.tail.tail.tail.tail.tail.tail.tail)

/-- What the bound gives. -/
theorem fits (l : List PartV) (hr : ∀ p ∈ l, p.ev.InRange) (hk : bulkAll l ≤ 1048576) : ∀ p ∈ l, p.ev.Fits := fun p hp => by
  have h1 := bulk_mem l p hp
  have h2 : p.ev.bulk + 15 + textAll p.lines ≤ bulkAll l := h1
  have h3 : p.ev.name.size + p.ev.text.size + p.ev.layout.size + p.ev.visible.size = p.ev.bulk := rfl
  refine ⟨?_, ?_, ?_, ?_, hr p hp⟩ <;> (unfold slim; omega)

set_option maxRecDepth 100000 in
theorem contract (H : Type) (enc : TypeId × Value → H) (W : World) (base : Nat) (args : Array Value) (ds gs : List (DataW H)) (before : List MemPlace)
    (hval : ∀ (j : Nat) t v, Tryz.f4.params[j]? = some t → args[j]? = some v → Value.okWide Tryz.prog W .any base t v)
    (hW : DataW.Whole enc Tryz.prog Tryz.f4.params.toList Rows.wireMadeSpec.vars false W args.toList ds gs before) (hL : laidMetH Tryz.prog Rows.wireMadeUptoRow.laid W) (hS : W.ShapedOpen Tryz.prog) (hk : Rows.uptoSmall H (ds ++ gs) = true) :
    Calls Tryz.prog 4 args W fun e W' => ∃ v, e = .returned v ∧ Rows.wireMadeSpec.post enc Tryz.prog Tryz.f4 false true false false W args v W' := by
  have hW' := hW
  obtain ⟨p, q, hA0, hV, rfl, hfz, hnd⟩ := hW
  have hA : DataW.TrodAll enc Tryz.prog W 0 (fun _ => true) true Tryz.f4.params.toList args.toList ds p := hA0
  rw [Tryz.params4] at hA hval
  obtain ⟨v0, vs0, d0, ds0, p0, q0, hargs, rfl, rfl, h0, r0⟩ := trodAll_cons hA
  obtain ⟨v1, vs1, d1, ds1, p1, q1, rfl, rfl, rfl, h1, r1⟩ := trodAll_cons r0
  obtain ⟨rfl, rfl, rfl⟩ := trodAll_nil r1
  obtain rfl : args = #[v0, v1] := by cases args; simp_all
  obtain ⟨rfl, rfl⟩ := trodVars_none hV
  obtain ⟨l0, ha0, hr0, hb0, hp0⟩ := open_parts (hval 0 25 v0 rfl rfl) h0
  obtain ⟨a1, rfl, rfl, rfl, w1⟩ := open_int Tryz.underlying3 (hval 1 3 v1 rfl rfl) h1
  clear hA0
  simp only [List.append_nil] at hW' hk
  have hsum : Rows.uptoBulkAll [d0, .lit (.int .i64 a1)] ≤ 1048576 := of_decide_eq_true hk
  simp only [Rows.uptoBulkAll, Rows.uptoBulk] at hsum
  refine (wireMade_walk l0 (fits l0 hr0 (by omega)) (by omega) v0 a1 W (env hL hS) (spaces hL) ha0).mono fun e W' ⟨he, hg⟩ => ?_
  subst he
  exact ⟨_, rfl, _, _, _, [], _, [], hW', trodAll_mk1 (shut_bool Tryz.underlying4 _), (trodAll_cons_mk (Below.trod laidOut (by kernel_rfl) (of_decide_eq_true (by kernel_rfl)) h0 hg hp0) (trodAll_cons_mk (shut_int Tryz.underlying3 w1) trodAll_mk0)), rfl, hg.frame _, fun h => by cases h⟩

def synS : ByteArray := ⟨#[105, 110, 118, 97, 108, 105, 100, 32, 115, 121, 110, 116, 97, 120]⟩
def rngS : ByteArray := ⟨#[118, 97, 108, 117, 101, 32, 111, 117, 116, 32, 111, 102, 32, 114, 97, 110, 103, 101]⟩
noncomputable def low : Nat := (World.holding Tryz.prog default ⟨#[], #[], []⟩).heap.size
def withCells (cs : Array Value) : Obj → Obj
  | .cells _ t frozen => .cells cs t frozen
  | o => o
set_option maxRecDepth 100000 in
def laidmathbitsdeBruijn32tab : Array Value := #[.int .u8 0, .int .u8 1, .int .u8 28, .int .u8 2, .int .u8 29, .int .u8 14, .int .u8 24, .int .u8 3, .int .u8 30, .int .u8 22, .int .u8 20, .int .u8 15, .int .u8 25, .int .u8 17, .int .u8 4, .int .u8 8, .int .u8 31, .int .u8 27, .int .u8 13, .int .u8 23, .int .u8 21, .int .u8 19, .int .u8 16, .int .u8 7, .int .u8 26, .int .u8 12, .int .u8 18, .int .u8 6, .int .u8 11, .int .u8 5, .int .u8 10, .int .u8 9]
set_option maxRecDepth 100000 in
def laidmathbitsdeBruijn64tab : Array Value := #[.int .u8 0, .int .u8 1, .int .u8 56, .int .u8 2, .int .u8 57, .int .u8 49, .int .u8 28, .int .u8 3, .int .u8 61, .int .u8 58, .int .u8 42, .int .u8 50, .int .u8 38, .int .u8 29, .int .u8 17, .int .u8 4, .int .u8 62, .int .u8 47, .int .u8 59, .int .u8 36, .int .u8 45, .int .u8 43, .int .u8 51, .int .u8 22, .int .u8 53, .int .u8 39, .int .u8 33, .int .u8 30, .int .u8 24, .int .u8 18, .int .u8 12, .int .u8 5, .int .u8 63, .int .u8 55, .int .u8 48, .int .u8 27, .int .u8 60, .int .u8 41, .int .u8 37, .int .u8 16, .int .u8 46, .int .u8 35, .int .u8 44, .int .u8 21, .int .u8 52, .int .u8 32, .int .u8 23, .int .u8 11, .int .u8 54, .int .u8 26, .int .u8 40, .int .u8 15, .int .u8 34, .int .u8 20, .int .u8 31, .int .u8 10, .int .u8 25, .int .u8 14, .int .u8 19, .int .u8 9, .int .u8 13, .int .u8 8, .int .u8 7, .int .u8 6]
set_option maxRecDepth 100000 in
def laidinternalstrconvuint64pow10 : Array Value := #[.int .u64 1, .int .u64 10, .int .u64 100, .int .u64 1000, .int .u64 10000, .int .u64 100000, .int .u64 1000000, .int .u64 10000000, .int .u64 100000000, .int .u64 1000000000, .int .u64 10000000000, .int .u64 100000000000, .int .u64 1000000000000, .int .u64 10000000000000, .int .u64 100000000000000, .int .u64 1000000000000000, .int .u64 10000000000000000, .int .u64 100000000000000000, .int .u64 1000000000000000000, .int .u64 10000000000000000000]
set_option maxRecDepth 100000 in
def laidunicodeutf8acceptRanges : Array Value := #[.int .u8 128, .int .u8 191, .int .u8 160, .int .u8 191, .int .u8 128, .int .u8 159, .int .u8 144, .int .u8 191, .int .u8 128, .int .u8 143, .int .u8 0, .int .u8 0, .int .u8 0, .int .u8 0, .int .u8 0, .int .u8 0, .int .u8 0, .int .u8 0, .int .u8 0, .int .u8 0, .int .u8 0, .int .u8 0, .int .u8 0, .int .u8 0, .int .u8 0, .int .u8 0, .int .u8 0, .int .u8 0, .int .u8 0, .int .u8 0, .int .u8 0, .int .u8 0]
set_option maxRecDepth 100000 in
def laidstringsasciiSpace : Array Value := #[.int .u8 0, .int .u8 0, .int .u8 0, .int .u8 0, .int .u8 0, .int .u8 0, .int .u8 0, .int .u8 0, .int .u8 0, .int .u8 1, .int .u8 1, .int .u8 1, .int .u8 1, .int .u8 1, .int .u8 0, .int .u8 0, .int .u8 0, .int .u8 0, .int .u8 0, .int .u8 0, .int .u8 0, .int .u8 0, .int .u8 0, .int .u8 0, .int .u8 0, .int .u8 0, .int .u8 0, .int .u8 0, .int .u8 0, .int .u8 0, .int .u8 0, .int .u8 0, .int .u8 1, .int .u8 0, .int .u8 0, .int .u8 0, .int .u8 0, .int .u8 0, .int .u8 0, .int .u8 0, .int .u8 0, .int .u8 0, .int .u8 0, .int .u8 0, .int .u8 0, .int .u8 0, .int .u8 0, .int .u8 0, .int .u8 0, .int .u8 0, .int .u8 0, .int .u8 0, .int .u8 0, .int .u8 0, .int .u8 0, .int .u8 0, .int .u8 0, .int .u8 0, .int .u8 0, .int .u8 0, .int .u8 0, .int .u8 0, .int .u8 0, .int .u8 0, .int .u8 0, .int .u8 0, .int .u8 0, .int .u8 0, .int .u8 0, .int .u8 0, .int .u8 0, .int .u8 0, .int .u8 0, .int .u8 0, .int .u8 0, .int .u8 0, .int .u8 0, .int .u8 0, .int .u8 0, .int .u8 0, .int .u8 0, .int .u8 0, .int .u8 0, .int .u8 0, .int .u8 0, .int .u8 0, .int .u8 0, .int .u8 0, .int .u8 0, .int .u8 0, .int .u8 0, .int .u8 0, .int .u8 0, .int .u8 0, .int .u8 0, .int .u8 0, .int .u8 0, .int .u8 0, .int .u8 0, .int .u8 0, .int .u8 0, .int .u8 0, .int .u8 0, .int .u8 0, .int .u8 0, .int .u8 0, .int .u8 0, .int .u8 0, .int .u8 0, .int .u8 0, .int .u8 0, .int .u8 0, .int .u8 0, .int .u8 0, .int .u8 0, .int .u8 0, .int .u8 0, .int .u8 0, .int .u8 0, .int .u8 0, .int .u8 0, .int .u8 0, .int .u8 0, .int .u8 0, .int .u8 0, .int .u8 0, .int .u8 0, .int .u8 0, .int .u8 0, .int .u8 0, .int .u8 0, .int .u8 0, .int .u8 0, .int .u8 0, .int .u8 0, .int .u8 0, .int .u8 0, .int .u8 0, .int .u8 0, .int .u8 0, .int .u8 0, .int .u8 0, .int .u8 0, .int .u8 0, .int .u8 0, .int .u8 0, .int .u8 0, .int .u8 0, .int .u8 0, .int .u8 0, .int .u8 0, .int .u8 0, .int .u8 0, .int .u8 0, .int .u8 0, .int .u8 0, .int .u8 0, .int .u8 0, .int .u8 0, .int .u8 0, .int .u8 0, .int .u8 0, .int .u8 0, .int .u8 0, .int .u8 0, .int .u8 0, .int .u8 0, .int .u8 0, .int .u8 0, .int .u8 0, .int .u8 0, .int .u8 0, .int .u8 0, .int .u8 0, .int .u8 0, .int .u8 0, .int .u8 0, .int .u8 0, .int .u8 0, .int .u8 0, .int .u8 0, .int .u8 0, .int .u8 0, .int .u8 0, .int .u8 0, .int .u8 0, .int .u8 0, .int .u8 0, .int .u8 0, .int .u8 0, .int .u8 0, .int .u8 0, .int .u8 0, .int .u8 0, .int .u8 0, .int .u8 0, .int .u8 0, .int .u8 0, .int .u8 0, .int .u8 0, .int .u8 0, .int .u8 0, .int .u8 0, .int .u8 0, .int .u8 0, .int .u8 0, .int .u8 0, .int .u8 0, .int .u8 0, .int .u8 0, .int .u8 0, .int .u8 0, .int .u8 0, .int .u8 0, .int .u8 0, .int .u8 0, .int .u8 0, .int .u8 0, .int .u8 0, .int .u8 0, .int .u8 0, .int .u8 0, .int .u8 0, .int .u8 0, .int .u8 0, .int .u8 0, .int .u8 0, .int .u8 0, .int .u8 0, .int .u8 0, .int .u8 0, .int .u8 0, .int .u8 0, .int .u8 0, .int .u8 0, .int .u8 0, .int .u8 0, .int .u8 0, .int .u8 0, .int .u8 0, .int .u8 0, .int .u8 0, .int .u8 0, .int .u8 0, .int .u8 0, .int .u8 0, .int .u8 0, .int .u8 0, .int .u8 0, .int .u8 0, .int .u8 0, .int .u8 0, .int .u8 0, .int .u8 0, .int .u8 0, .int .u8 0]
set_option maxRecDepth 100000 in
def laidmullionoctaldigits : Array Value := #[.int .u8 48, .int .u8 49, .int .u8 50, .int .u8 51, .int .u8 52, .int .u8 53, .int .u8 54, .int .u8 55]
set_option maxRecDepth 100000 in
def laidmullionwireheads : Array Value := #[.string ⟨#[]⟩, .string ⟨#[37, 98, 101, 103, 105, 110, 32]⟩, .string ⟨#[37, 101, 110, 100, 32]⟩, .string ⟨#[37, 101, 114, 114, 111, 114, 32]⟩, .string ⟨#[]⟩, .string ⟨#[37, 111, 117, 116, 112, 117, 116, 32]⟩, .string ⟨#[37, 112, 97, 117, 115, 101, 32]⟩, .string ⟨#[37, 99, 111, 110, 116, 105, 110, 117, 101, 32]⟩, .string ⟨#[37, 112, 97, 110, 101, 45, 97, 100, 100, 32]⟩, .string ⟨#[37, 112, 97, 110, 101, 45, 99, 108, 111, 115, 101, 32]⟩, .string ⟨#[37, 119, 105, 110, 100, 111, 119, 45, 97, 100, 100, 32]⟩, .string ⟨#[37, 119, 105, 110, 100, 111, 119, 45, 99, 108, 111, 115, 101, 32]⟩, .string ⟨#[37, 119, 105, 110, 100, 111, 119, 45, 114, 101, 110, 97, 109, 101, 100, 32]⟩, .string ⟨#[37, 108, 97, 121, 111, 117, 116, 45, 99, 104, 97, 110, 103, 101, 32]⟩, .string ⟨#[37, 119, 105, 110, 100, 111, 119, 45, 112, 97, 110, 101, 45, 99, 104, 97, 110, 103, 101, 100, 32]⟩, .string ⟨#[37, 115, 101, 115, 115, 105, 111, 110, 45, 97, 100, 100, 32]⟩, .string ⟨#[37, 115, 101, 115, 115, 105, 111, 110, 45, 99, 108, 111, 115, 101, 32]⟩, .string ⟨#[37, 115, 101, 115, 115, 105, 111, 110, 45, 114, 101, 110, 97, 109, 101, 100, 32]⟩, .string ⟨#[37, 119, 105, 110, 100, 111, 119, 45, 108, 105, 110, 107, 32]⟩, .string ⟨#[37, 119, 105, 110, 100, 111, 119, 45, 117, 110, 108, 105, 110, 107, 32]⟩, .string ⟨#[37, 115, 101, 115, 115, 105, 111, 110, 45, 119, 105, 110, 100, 111, 119, 45, 99, 104, 97, 110, 103, 101, 100, 32]⟩, .string ⟨#[37, 115, 101, 115, 115, 105, 111, 110, 45, 99, 104, 97, 110, 103, 101, 100, 32]⟩, .string ⟨#[37, 115, 117, 98, 115, 99, 114, 105, 112, 116, 105, 111, 110, 45, 99, 104, 97, 110, 103, 101, 100, 32]⟩, .string ⟨#[37, 109, 101, 115, 115, 97, 103, 101, 32]⟩, .string ⟨#[37, 101, 120, 105, 116]⟩]
set_option maxRecDepth 100000 in
def laidunicodeutf8first : Array Value := #[.int .u8 240, .int .u8 240, .int .u8 240, .int .u8 240, .int .u8 240, .int .u8 240, .int .u8 240, .int .u8 240, .int .u8 240, .int .u8 240, .int .u8 240, .int .u8 240, .int .u8 240, .int .u8 240, .int .u8 240, .int .u8 240, .int .u8 240, .int .u8 240, .int .u8 240, .int .u8 240, .int .u8 240, .int .u8 240, .int .u8 240, .int .u8 240, .int .u8 240, .int .u8 240, .int .u8 240, .int .u8 240, .int .u8 240, .int .u8 240, .int .u8 240, .int .u8 240, .int .u8 240, .int .u8 240, .int .u8 240, .int .u8 240, .int .u8 240, .int .u8 240, .int .u8 240, .int .u8 240, .int .u8 240, .int .u8 240, .int .u8 240, .int .u8 240, .int .u8 240, .int .u8 240, .int .u8 240, .int .u8 240, .int .u8 240, .int .u8 240, .int .u8 240, .int .u8 240, .int .u8 240, .int .u8 240, .int .u8 240, .int .u8 240, .int .u8 240, .int .u8 240, .int .u8 240, .int .u8 240, .int .u8 240, .int .u8 240, .int .u8 240, .int .u8 240, .int .u8 240, .int .u8 240, .int .u8 240, .int .u8 240, .int .u8 240, .int .u8 240, .int .u8 240, .int .u8 240, .int .u8 240, .int .u8 240, .int .u8 240, .int .u8 240, .int .u8 240, .int .u8 240, .int .u8 240, .int .u8 240, .int .u8 240, .int .u8 240, .int .u8 240, .int .u8 240, .int .u8 240, .int .u8 240, .int .u8 240, .int .u8 240, .int .u8 240, .int .u8 240, .int .u8 240, .int .u8 240, .int .u8 240, .int .u8 240, .int .u8 240, .int .u8 240, .int .u8 240, .int .u8 240, .int .u8 240, .int .u8 240, .int .u8 240, .int .u8 240, .int .u8 240, .int .u8 240, .int .u8 240, .int .u8 240, .int .u8 240, .int .u8 240, .int .u8 240, .int .u8 240, .int .u8 240, .int .u8 240, .int .u8 240, .int .u8 240, .int .u8 240, .int .u8 240, .int .u8 240, .int .u8 240, .int .u8 240, .int .u8 240, .int .u8 240, .int .u8 240, .int .u8 240, .int .u8 240, .int .u8 240, .int .u8 240, .int .u8 240, .int .u8 240, .int .u8 241, .int .u8 241, .int .u8 241, .int .u8 241, .int .u8 241, .int .u8 241, .int .u8 241, .int .u8 241, .int .u8 241, .int .u8 241, .int .u8 241, .int .u8 241, .int .u8 241, .int .u8 241, .int .u8 241, .int .u8 241, .int .u8 241, .int .u8 241, .int .u8 241, .int .u8 241, .int .u8 241, .int .u8 241, .int .u8 241, .int .u8 241, .int .u8 241, .int .u8 241, .int .u8 241, .int .u8 241, .int .u8 241, .int .u8 241, .int .u8 241, .int .u8 241, .int .u8 241, .int .u8 241, .int .u8 241, .int .u8 241, .int .u8 241, .int .u8 241, .int .u8 241, .int .u8 241, .int .u8 241, .int .u8 241, .int .u8 241, .int .u8 241, .int .u8 241, .int .u8 241, .int .u8 241, .int .u8 241, .int .u8 241, .int .u8 241, .int .u8 241, .int .u8 241, .int .u8 241, .int .u8 241, .int .u8 241, .int .u8 241, .int .u8 241, .int .u8 241, .int .u8 241, .int .u8 241, .int .u8 241, .int .u8 241, .int .u8 241, .int .u8 241, .int .u8 241, .int .u8 241, .int .u8 2, .int .u8 2, .int .u8 2, .int .u8 2, .int .u8 2, .int .u8 2, .int .u8 2, .int .u8 2, .int .u8 2, .int .u8 2, .int .u8 2, .int .u8 2, .int .u8 2, .int .u8 2, .int .u8 2, .int .u8 2, .int .u8 2, .int .u8 2, .int .u8 2, .int .u8 2, .int .u8 2, .int .u8 2, .int .u8 2, .int .u8 2, .int .u8 2, .int .u8 2, .int .u8 2, .int .u8 2, .int .u8 2, .int .u8 2, .int .u8 19, .int .u8 3, .int .u8 3, .int .u8 3, .int .u8 3, .int .u8 3, .int .u8 3, .int .u8 3, .int .u8 3, .int .u8 3, .int .u8 3, .int .u8 3, .int .u8 3, .int .u8 35, .int .u8 3, .int .u8 3, .int .u8 52, .int .u8 4, .int .u8 4, .int .u8 4, .int .u8 68, .int .u8 241, .int .u8 241, .int .u8 241, .int .u8 241, .int .u8 241, .int .u8 241, .int .u8 241, .int .u8 241, .int .u8 241, .int .u8 241, .int .u8 241]
noncomputable def laidWorld (os : Os) : World :=
  { World.holding Tryz.prog os ⟨#[.cells #[.string synS] 202, .cells #[.string rngS] 202, .cells #[.slice (some ⟨low + 3, 0, none⟩) 7 7, .slice none 0 0, .int .i64 2] 160, .cells #[.int .u16 9, .int .u16 13, .int .u16 1, .int .u16 32, .int .u16 133, .int .u16 101, .int .u16 160, .int .u16 5760, .int .u16 5600, .int .u16 8192, .int .u16 8202, .int .u16 1, .int .u16 8232, .int .u16 8233, .int .u16 1, .int .u16 8239, .int .u16 8287, .int .u16 48, .int .u16 12288, .int .u16 12288, .int .u16 1] 163], #[], []⟩ with heap := ((((((((((((World.holding Tryz.prog os ⟨#[.cells #[.string synS] 202, .cells #[.string rngS] 202, .cells #[.slice (some ⟨low + 3, 0, none⟩) 7 7, .slice none 0 0, .int .i64 2] 160, .cells #[.int .u16 9, .int .u16 13, .int .u16 1, .int .u16 32, .int .u16 133, .int .u16 101, .int .u16 160, .int .u16 5760, .int .u16 5600, .int .u16 8192, .int .u16 8202, .int .u16 1, .int .u16 8232, .int .u16 8233, .int .u16 1, .int .u16 8239, .int .u16 8287, .int .u16 48, .int .u16 12288, .int .u16 12288, .int .u16 1] 163], #[], []⟩).heap.modify 7 (withCells #[.iface 200 (.pointer (some ⟨low, 0, none⟩))])).modify 8 (withCells #[.iface 200 (.pointer (some ⟨low + 1, 0, none⟩))])).modify 3 (withCells #[.pointer (some ⟨low + 2, 0, none⟩)])).modify 10 (withCells laidmathbitsdeBruijn32tab)).modify 11 (withCells laidmathbitsdeBruijn64tab)).modify 9 (withCells laidinternalstrconvuint64pow10)).modify 6 (withCells laidunicodeutf8acceptRanges)).modify 2 (withCells laidstringsasciiSpace)).modify 4 (withCells laidmullionoctaldigits)).modify 0 (withCells laidmullionwireheads)).modify 5 (withCells laidunicodeutf8first)) }
theorem laid_met (os : Os) : laidMet Tryz.prog Rows.wireMadeUptoRow.laid ((laidWorld os).forCall (fun _ _ => 0) ⟨#[], #[.slice none 0 0, .int .i64 0], []⟩).memory :=
  laidMet_of_fresh 8 (by kernel_rfl) (by kernel_rfl)
theorem reads (os : Os) {H : Type} (enc : TypeId × Value → H) : ∃ places, DataW.whole enc Tryz.prog ((laidWorld os).forCall (fun _ _ => 0) ⟨#[], #[.slice none 0 0, .int .i64 0], []⟩).memory Tryz.f4.params.toList Rows.wireMadeSpec.vars false #[Value.slice none 0 0, Value.int .i64 0].toList 8 = some ([.nil, .lit (.int .i64 0)], [], places) :=
  ⟨[], by kernel_rfl⟩

set_option maxRecDepth 100000 in
theorem lifted (os : Os) (started : os.Started) (H : Type) (enc : TypeId × Value → H) (F : Stop.Interp) :
    ReturnsInHanded {} Tryz.checked os 4 .any ((Rows.OpenSpec.upto Rows.wireMadeSpec).preRow enc Tryz.prog Tryz.f4 Rows.wireMadeUptoRow.domain false Rows.wireMadeUptoRow.laid) (((Rows.OpenSpec.upto Rows.wireMadeSpec).at F).post enc Tryz.prog Tryz.f4 false true false false) := by
  obtain ⟨places, hx⟩ := reads os enc
  refine returnsInHanded_of_row (C := Tryz.checked) (s := (Rows.OpenSpec.upto Rows.wireMadeSpec)) own started (by kernel_rfl) Tryz.func4
    (witness_row_atRef (enc := enc) (C := Tryz.checked) false (laidWorld os) #[.slice none 0 0, .int .i64 0] rfl (by kernel_rfl) (by kernel_rfl) (by kernel_rfl)
      (OpenSpec.preRow_of_cond 8 hx (by kernel_rfl) (fun k hk => by cases hk; kernel_rfl) (by kernel_rfl) (laid_met os))) ?_
  intro W base args ds gs before hval hW _ hcond hsz hL hS _
  exact contract H enc W base args ds gs before hval hW hL hS (hcond _ rfl)

set_option maxRecDepth 100000 in
theorem said : Rows.WireMadeUptoSaid :=
  OpenClaim.holds_of_cond 4 Tryz.f4 rfl rfl rfl rfl rfl rfl rfl ⟨rfl, rfl, rfl, rfl, rfl⟩ rfl rfl rfl rfl rfl (by kernel_rfl) Tryz.func4 (by kernel_rfl)
    (of_decide_eq_true (by kernel_rfl)) (by unfold Func.isWrapper; first | (rw [if_pos (by decide +kernel)]; kernel_rfl) | (rw [if_neg (by decide +kernel)]; exact ⟨rfl, rfl⟩))
    (fun os started H enc _ F => by rw [OpenClaim.pre_eq_preRow]; exact lifted os started H enc F)

set_option maxRecDepth 100000 in
theorem plain (f : FuncId) (fn : Func) (hf : Tryz.pinned.checked.prog.funcNamed "mullion/mullionlaw03.WireMade" = some f) (hfn : Tryz.pinned.checked.prog.funcs[f]? = some fn) :
    true = Tryz.pinned.checked.prog.looks [] ∧ ∀ (j : Nat) t, fn.params[j]? = some t → Tryz.pinned.checked.prog.wantsStandIn t = false := by
  obtain rfl : f = 4 := Option.some.inj ((show Tryz.prog.funcNamed "mullion/mullionlaw03.WireMade" = some 4 by kernel_rfl).symm.trans hf) |>.symm
  obtain rfl : fn = Tryz.f4 := (Option.some.inj (Tryz.func4.symm.trans hfn)).symm
  refine ⟨by kernel_rfl, fun j t ht => ?_⟩
  rw [Tryz.params4] at ht
  have hm : t ∈ #[25, 3] := Array.mem_of_getElem? ht
  have hs : ∀ t ∈ #[25, 3], Tryz.prog.wantsStandIn t = false := by
    intro t ht
    simp at ht
    rcases ht with rfl | rfl
    all_goals exact (by kernel_rfl)
  exact hs t hm
end Go.Proofs.YtplolaondmeccaaGreatDoor.wireMade
namespace Go.Proofs.YtplolaondmeccaaGreatDoor
theorem wireMadeUpto_card : Rows.WireMadeUptoCardSaid :=
  Claim7.holds_tied_plain_at .later [] _ _ _ _ wireMade.said (fun _ h => by cases h) (by kernel_rfl) (fun _ h => by cases h) wireMadeUpto_row_tie rfl ⟨rfl, rfl⟩ (by kernel_rfl) rfl wireMade.plain (by kernel_rfl)
#print axioms wireMadeUpto_card
end Go.Proofs.YtplolaondmeccaaGreatDoor
