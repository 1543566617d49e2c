/-
  Many laid variables: their places are apart, told by one number's bits.
  Keys: the tables, as they are laid.
  Options: the variables, as they are laid.
-/
import Derived.Test.YtgdkpmfdpfjdjaaGreatDoorRows
import Derived.Test.YtgdkpmfdpfjdjaaGreatDoorHC
import Derived.Test.YtgdkpmfdpfjdjaaGreatDoorOChk
import Derived.LaidLaws
import Derived.KernelRfl
import Derived.Deep.Slices
import Derived.Lib.LaidTab
import Derived.Lib.LaidU8
import Derived.Lib.LaidU8T
import Derived.Stop.LaidErr
namespace Go.Proofs.YtgdkpmfdpfjdjaaGreatDoor

def freshB : Nat → List MemPlace → Bool
  | _, [] => true
  | acc, .cell b o :: r => Nat.blt o 1024 && (!acc.testBit (b * 1024 + o) && freshB (acc ||| 2 ^ (b * 1024 + o)) r)
  | _, .map _ :: _ => false

theorem freshB_apart : ∀ (l : List MemPlace) (acc : Nat), freshB acc l = true → l.Nodup ∧ ∀ b o, MemPlace.cell b o ∈ l → acc.testBit (b * 1024 + o) = false
  | [], _, _ => ⟨List.nodup_nil, fun _ _ h => by cases h⟩
  | .map _ :: _, _, h => by cases h
  | .cell b o :: r, acc, h => by
    unfold freshB at h
    rw [Bool.and_eq_true, Bool.and_eq_true, Bool.not_eq_true'] at h
    obtain ⟨_, h1, h2⟩ := h
    obtain ⟨i1, i2⟩ := freshB_apart r _ h2
    have hself : (acc ||| 2 ^ (b * 1024 + o)).testBit (b * 1024 + o) = true := by rw [Nat.testBit_or, Nat.testBit_two_pow_self, Bool.or_true]
    refine ⟨List.nodup_cons.2 ⟨fun hm => ?_, i1⟩, fun b' o' hm => ?_⟩
    · rw [i2 b o hm] at hself
      cases hself
    · rcases List.mem_cons.1 hm with e | hm
      · cases e
        exact h1
      · have := i2 b' o' hm
        rw [Nat.testBit_or, Bool.or_eq_false_iff] at this
        exact this.1

theorem laidMet_of_fresh {P : Program} {w : World} {l : List (String × DataW Unit)} (fuel : Nat) (h : (DataW.laidRun P w fuel (l.map (·.1))).map (·.1) = some l)
    (hr : (DataW.laidRun P w fuel (l.map (·.1))).map (fun x => freshB 0 x.2 && laidRowsB P w x.2) = some true) : laidMet P l w := by
  cases hx : DataW.laidRun P w fuel (l.map (·.1)) with
  | none => simp [hx] at h
  | some x =>
    obtain ⟨l', ps⟩ := x
    simp only [hx, Option.map_some, Option.some.injEq] at h hr
    subst h
    simp only [Bool.and_eq_true] at hr
    exact laidMet_of_run fuel hx (decide_eq_true (freshB_apart _ _ hr.1).1) hr.2

end Go.Proofs.YtgdkpmfdpfjdjaaGreatDoor

namespace Go.Proofs.YtgdkpmfdpfjdjaaGreatDoor
open Go.RowKit
set_option linter.unusedVariables false
set_option maxRecDepth 100000

theorem cells3K : Tryz.prog.cellsOf 3 = 1 := by kernel_rfl
theorem cells9K : Tryz.prog.cellsOf 9 = 1 := by kernel_rfl
def renU8 : Go.Shelf.Ren := ⟨fun n => n, fun | 5 => 5 | 119 => 190 | 138 => 192 | 139 => 193 | n => n, fun | 3 => 5 | 4 => 6 | n => n⟩
theorem u8t : Go.Proofs.U8Types Tryz.prog renU8 := ⟨by kernel_rfl, by kernel_rfl, by kernel_rfl, by kernel_rfl⟩
theorem u8x : Go.Proofs.U8Extra Tryz.prog renU8 := ⟨by kernel_rfl, by kernel_rfl, by kernel_rfl, by kernel_rfl, by kernel_rfl, by kernel_rfl, by kernel_rfl⟩
theorem open_md {H : Type} {enc : TypeId × Value → H} {W : World} {base : Nat} {sp : Nat → Bool} {held : Bool} {fuel : Nat} {cs : List Value} {a : Int} {b : List UInt8} {p : List MemPlace} (h : DataW.trod enc Tryz.prog W base sp held fuel 143 cs = some (.agg [.lit (.int .i64 a), .lit (.string b)], p)) : cs = [.int .i64 a, .string (str b)] := by
  obtain ⟨xs, n, _, hx, hl, hlen, hfs⟩ := DataW.trod_struct Tryz.underlying143 h
  rw [show Tryz.prog.cellsOf 143 = 2 by kernel_rfl] at hl
  match cs, hl, xs, hlen with
  | [c0, c1], _, [y0, y1], _ =>
    have t0 : DataW.trod enc Tryz.prog W base sp held n 3 [c0] = some y0 := by have h := hfs 0 _ rfl; simpa [cells3K] using h
    have t1 : DataW.trod enc Tryz.prog W base sp held n 9 [c1] = some y1 := by have h := hfs 1 _ rfl; simpa [cells9K] using h
    obtain ⟨z0, e0, rfl, w0⟩ := DataW.trod_int Tryz.underlying3 t0
    obtain ⟨z1, e1, rfl, _⟩ := DataW.trod_string Tryz.underlying9 t1
    obtain rfl := (List.cons.inj e0).1
    obtain rfl := (List.cons.inj e1).1
    simp at hx
    obtain ⟨⟨h0, h1⟩, _⟩ := hx
    rw [h0, h1]
    rfl
theorem open_nm {H : Type} {enc : TypeId × Value → H} {W : World} {base : Nat} {sp : Nat → Bool} {held : Bool} {fuel : Nat} {cs : List Value} {a : Int} {b : List UInt8} {p : List MemPlace} (h : DataW.trod enc Tryz.prog W base sp held fuel 167 cs = some (.agg [.lit (.int .i64 a), .lit (.string b)], p)) : cs = [.int .i64 a, .string (str b)] := by
  obtain ⟨xs, n, _, hx, hl, hlen, hfs⟩ := DataW.trod_struct Tryz.underlying167 h
  rw [show Tryz.prog.cellsOf 167 = 2 by kernel_rfl] at hl
  match cs, hl, xs, hlen with
  | [c0, c1], _, [y0, y1], _ =>
    have t0 : DataW.trod enc Tryz.prog W base sp held n 3 [c0] = some y0 := by have h := hfs 0 _ rfl; simpa [cells3K] using h
    have t1 : DataW.trod enc Tryz.prog W base sp held n 9 [c1] = some y1 := by have h := hfs 1 _ rfl; simpa [cells9K] using h
    obtain ⟨z0, e0, rfl, w0⟩ := DataW.trod_int Tryz.underlying3 t0
    obtain ⟨z1, e1, rfl, _⟩ := DataW.trod_string Tryz.underlying9 t1
    obtain rfl := (List.cons.inj e0).1
    obtain rfl := (List.cons.inj e1).1
    simp at hx
    obtain ⟨⟨h0, h1⟩, _⟩ := hx
    rw [h0, h1]
    rfl
theorem open_sp {H : Type} {enc : TypeId × Value → H} {W : World} {base : Nat} {sp : Nat → Bool} {held : Bool} {fuel : Nat} {cs : List Value} {s : Sp} {p : List MemPlace} (h : DataW.trod enc Tryz.prog W base sp held fuel 165 cs = some (.agg [.lit (.string s.name), .lit (.string s.head), .lit (.string s.letter), .lit (.string s.number)], p)) : cs = s.vals := by
  obtain ⟨xs, n, _, hx, hl, hlen, hfs⟩ := DataW.trod_struct Tryz.underlying165 h
  rw [show Tryz.prog.cellsOf 165 = 4 by kernel_rfl] at hl
  match cs, hl, xs, hlen with
  | [c0, c1, c2, c3], _, [y0, y1, y2, y3], _ =>
    have t0 : DataW.trod enc Tryz.prog W base sp held n 9 [c0] = some y0 := by have h := hfs 0 _ rfl; simpa [cells9K] using h
    have t1 : DataW.trod enc Tryz.prog W base sp held n 9 [c1] = some y1 := by have h := hfs 1 _ rfl; simpa [cells9K] using h
    have t2 : DataW.trod enc Tryz.prog W base sp held n 9 [c2] = some y2 := by have h := hfs 2 _ rfl; simpa [cells9K] using h
    have t3 : DataW.trod enc Tryz.prog W base sp held n 9 [c3] = some y3 := by have h := hfs 3 _ rfl; simpa [cells9K] using h
    obtain ⟨z0, e0, rfl, _⟩ := DataW.trod_string Tryz.underlying9 t0
    obtain ⟨z1, e1, rfl, _⟩ := DataW.trod_string Tryz.underlying9 t1
    obtain ⟨z2, e2, rfl, _⟩ := DataW.trod_string Tryz.underlying9 t2
    obtain ⟨z3, e3, rfl, _⟩ := DataW.trod_string Tryz.underlying9 t3
    obtain rfl := (List.cons.inj e0).1
    obtain rfl := (List.cons.inj e1).1
    obtain rfl := (List.cons.inj e2).1
    obtain rfl := (List.cons.inj e3).1
    simp at hx
    obtain ⟨⟨h0, h1, h2, h3⟩, _⟩ := hx
    unfold Sp.vals
    rw [h0, h1, h2, h3]
    rfl
/-- An array whose parts have k cells each. -/
theorem flat_cells {cs ys : List Value} {n k : Nat} (hk : 0 < k) (hl : cs.length = n * k) (hy : ys.length = n * k) (h : ∀ i, i < n → (cs.drop (i * k)).take k = (ys.drop (i * k)).take k) : cs = ys := by
  apply List.ext_getElem?
  intro j
  by_cases hj : j < n * k
  · have hi : j / k < n := Nat.div_lt_of_lt_mul (by rw [Nat.mul_comm]; exact hj)
    have h1 := congrArg (·[j % k]?) (h (j / k) hi)
    have hm : j % k < k := Nat.mod_lt _ hk
    have e : j / k * k + j % k = j := by rw [Nat.mul_comm]; exact Nat.div_add_mod j k
    simpa [List.getElem?_take, List.getElem?_drop, hm, e] using h1
  · rw [List.getElem?_eq_none (by omega), List.getElem?_eq_none (by omega)]
theorem trod_len {enc : TypeId × Value → Unit} {W : World} {base : Nat} {sp : Nat → Bool} {held : Bool} {fuel : Nat} {t e : TypeId} {n : Nat} {cs : List Value} {ds : List (DataW Unit)} {p : List MemPlace} (ht : Tryz.prog.underlying t = some (.array n e))
    (h : DataW.trod enc Tryz.prog W base sp held fuel t cs = some (.agg ds, p)) : cs.length = Tryz.prog.cellsOf t := by
  cases fuel with
  | zero => simp [DataW.trod] at h
  | succ fuel =>
    simp only [DataW.trod, ht] at h
    split at h
    · rename_i hl
      simpa using hl
    · cases h
theorem sp_data : Rows.laid_mullion_keys_specials = (DataW.agg (spT.map fun p => .agg [.lit (.string p.name), .lit (.string p.head), .lit (.string p.letter), .lit (.string p.number)]) : DataW Unit) := rfl
theorem sp_laid {W : World} (h : Lib.VarReads Tryz.prog W "mullion/keys.specials" Rows.laid_mullion_keys_specials) : W.rangeAt 1 0 spCs := by
  obtain ⟨g, t, xs, fuel, p, hg, hty, hvar, hd⟩ := h
  obtain rfl := Option.some.inj ((show Tryz.prog.globalNamed "mullion/keys.specials" = some 1 by kernel_rfl).symm.trans hg)
  obtain rfl := Option.some.inj ((show (Tryz.prog.globals[1]?).map (·.type) = some 166 by kernel_rfl).symm.trans hty)
  rw [sp_data] at hd
  have hlen := trod_len Tryz.underlying166 hd
  rw [show Tryz.prog.cellsOf 166 = 88 by kernel_rfl] at hlen
  have hc : xs.toList = spCs := by
    refine flat_cells (n := 22) (k := 4) (by decide) hlen (by rfl) fun i hi => ?_
    obtain ⟨fuel', d, q, hdi, he⟩ := Lib.array_elem Tryz.underlying166 hd i hi
    rw [show Tryz.prog.cellsOf 165 = 4 by kernel_rfl] at he
    rw [List.getElem?_map] at hdi
    obtain ⟨s, hs, rfl⟩ := Option.map_eq_some_iff.1 hdi
    rw [open_sp he]
    have hall : ∀ i : Fin 22, (spT[i.val]?).map Sp.vals = some ((spCs.drop (i.val * 4)).take 4) := by
      intro i
      match i with
      | ⟨0, _⟩ => rfl
      | ⟨1, _⟩ => rfl
      | ⟨2, _⟩ => rfl
      | ⟨3, _⟩ => rfl
      | ⟨4, _⟩ => rfl
      | ⟨5, _⟩ => rfl
      | ⟨6, _⟩ => rfl
      | ⟨7, _⟩ => rfl
      | ⟨8, _⟩ => rfl
      | ⟨9, _⟩ => rfl
      | ⟨10, _⟩ => rfl
      | ⟨11, _⟩ => rfl
      | ⟨12, _⟩ => rfl
      | ⟨13, _⟩ => rfl
      | ⟨14, _⟩ => rfl
      | ⟨15, _⟩ => rfl
      | ⟨16, _⟩ => rfl
      | ⟨17, _⟩ => rfl
      | ⟨18, _⟩ => rfl
      | ⟨19, _⟩ => rfl
      | ⟨20, _⟩ => rfl
      | ⟨21, _⟩ => rfl
      | ⟨i + 22, h⟩ => exact absurd h (by omega)
    have h1 := hall ⟨i, hi⟩
    simp only at h1
    rw [hs] at h1
    exact Option.some.inj h1
  intro j v hv
  have hx := World.var?_cell hg hvar j
  rw [Nat.zero_add, hx, ← Array.getElem?_toList, hc]
  exact hv
theorem nm_data : Rows.laid_mullion_keys_named = (DataW.agg (nmT.map fun p => .agg [.lit (.int .i64 p.1), .lit (.string p.2)]) : DataW Unit) := rfl
theorem nm_laid {W : World} (h : Lib.VarReads Tryz.prog W "mullion/keys.named" Rows.laid_mullion_keys_named) : W.rangeAt 2 0 nmCs := by
  obtain ⟨g, t, xs, fuel, p, hg, hty, hvar, hd⟩ := h
  obtain rfl := Option.some.inj ((show Tryz.prog.globalNamed "mullion/keys.named" = some 2 by kernel_rfl).symm.trans hg)
  obtain rfl := Option.some.inj ((show (Tryz.prog.globals[2]?).map (·.type) = some 168 by kernel_rfl).symm.trans hty)
  rw [nm_data] at hd
  have hlen := trod_len Tryz.underlying168 hd
  rw [show Tryz.prog.cellsOf 168 = 12 by kernel_rfl] at hlen
  have hc : xs.toList = nmCs := by
    refine flat_cells (n := 6) (k := 2) (by decide) hlen (by rfl) fun i hi => ?_
    obtain ⟨fuel', d, q, hdi, he⟩ := Lib.array_elem Tryz.underlying168 hd i hi
    rw [show Tryz.prog.cellsOf 167 = 2 by kernel_rfl] at he
    rw [List.getElem?_map] at hdi
    obtain ⟨s, hs, rfl⟩ := Option.map_eq_some_iff.1 hdi
    rw [open_nm he]
    have hall : ∀ i : Fin 6, (nmT[i.val]?).map prC = some ((nmCs.drop (i.val * 2)).take 2) := by
      intro i
      match i with
      | ⟨0, _⟩ => rfl
      | ⟨1, _⟩ => rfl
      | ⟨2, _⟩ => rfl
      | ⟨3, _⟩ => rfl
      | ⟨4, _⟩ => rfl
      | ⟨5, _⟩ => rfl
      | ⟨i + 6, h⟩ => exact absurd h (by omega)
    have h1 := hall ⟨i, hi⟩
    simp only at h1
    rw [hs] at h1
    exact Option.some.inj h1
  intro j v hv
  have hx := World.var?_cell hg hvar j
  rw [Nat.zero_add, hx, ← Array.getElem?_toList, hc]
  exact hv
theorem md_data : Rows.laid_mullion_keys_modifiers = (DataW.agg (mdT.map fun p => .agg [.lit (.int .i64 p.1), .lit (.string p.2)]) : DataW Unit) := rfl
theorem md_laid {W : World} (h : Lib.VarReads Tryz.prog W "mullion/keys.modifiers" Rows.laid_mullion_keys_modifiers) : W.rangeAt 0 0 mdCs := by
  obtain ⟨g, t, xs, fuel, p, hg, hty, hvar, hd⟩ := h
  obtain rfl := Option.some.inj ((show Tryz.prog.globalNamed "mullion/keys.modifiers" = some 0 by kernel_rfl).symm.trans hg)
  obtain rfl := Option.some.inj ((show (Tryz.prog.globals[0]?).map (·.type) = some 144 by kernel_rfl).symm.trans hty)
  rw [md_data] at hd
  have hlen := trod_len Tryz.underlying144 hd
  rw [show Tryz.prog.cellsOf 144 = 6 by kernel_rfl] at hlen
  have hc : xs.toList = mdCs := by
    refine flat_cells (n := 3) (k := 2) (by decide) hlen (by rfl) fun i hi => ?_
    obtain ⟨fuel', d, q, hdi, he⟩ := Lib.array_elem Tryz.underlying144 hd i hi
    rw [show Tryz.prog.cellsOf 143 = 2 by kernel_rfl] at he
    rw [List.getElem?_map] at hdi
    obtain ⟨s, hs, rfl⟩ := Option.map_eq_some_iff.1 hdi
    rw [open_md he]
    have hall : ∀ i : Fin 3, (mdT[i.val]?).map prC = some ((mdCs.drop (i.val * 2)).take 2) := by
      intro i
      match i with
      | ⟨0, _⟩ => rfl
      | ⟨1, _⟩ => rfl
      | ⟨2, _⟩ => rfl
      | ⟨i + 3, h⟩ => exact absurd h (by omega)
    have h1 := hall ⟨i, hi⟩
    simp only at h1
    rw [hs] at h1
    exact Option.some.inj h1
  intro j v hv
  have hx := World.var?_cell hg hvar j
  rw [Nat.zero_add, hx, ← Array.getElem?_toList, hc]
  exact hv
theorem first_data : Rows.laid_unicode_utf8_first = Lib.firstData := by kernel_rfl
theorem accept_data : (Rows.laid_unicode_utf8_acceptRanges : DataW Unit) = Lib.acceptData := by kernel_rfl
theorem tabs_laid {W : World} (h : laidMet Tryz.prog [("unicode/utf8.acceptRanges", Rows.laid_unicode_utf8_acceptRanges), ("mullion/keys.specials", Rows.laid_mullion_keys_specials), ("mullion/keys.modifiers", Rows.laid_mullion_keys_modifiers), ("mullion/keys.named", Rows.laid_mullion_keys_named), ("unicode/utf8.first", Rows.laid_unicode_utf8_first)] W) : Tabs W := by
  refine ⟨sp_laid (Lib.laidMet.reads h (by simp)), nm_laid (Lib.laidMet.reads h (by simp)), md_laid (Lib.laidMet.reads h (by simp)), ?_⟩
  have h3 : Lib.VarReads Tryz.prog W "unicode/utf8.first" Lib.firstData := by rw [← first_data]; exact Lib.laidMet.reads h (by simp)
  have h4 : Lib.VarReads Tryz.prog W "unicode/utf8.acceptRanges" Lib.acceptData := by rw [← accept_data]; exact Lib.laidMet.reads h (by simp)
  exact Go.Proofs.utf8Tabs_of_readsT u8t u8x h3 h4
end Go.Proofs.YtgdkpmfdpfjdjaaGreatDoor

namespace Go.Proofs.YtgdkpmfdpfjdjaaGreatDoor
open Go.RowKit
set_option linter.unusedVariables false
set_option maxRecDepth 100000

theorem gPO : Tryz.prog.globalNamed "internal/strconv.uint64pow10" = some 7 := by kernel_rfl
theorem gPTypeO : (Tryz.prog.globals[7]?).map (·.type) = some 204 := by kernel_rfl
theorem cellsPO : Tryz.prog.cellsOf 204 = 20 := by kernel_rfl
theorem cellsUO : Tryz.prog.cellsOf 136 = 1 := by kernel_rfl
theorem gESO : Tryz.prog.globalNamed "strconv.ErrSyntax" = some 3 := by kernel_rfl
theorem gESTypeO : (Tryz.prog.globals[3]?).map (·.type) = some 138 := by kernel_rfl
theorem gERO : Tryz.prog.globalNamed "strconv.ErrRange" = some 4 := by kernel_rfl
theorem gERTypeO : (Tryz.prog.globals[4]?).map (·.type) = some 138 := by kernel_rfl
theorem cellsSO : Tryz.prog.cellsOf 197 = 1 := by kernel_rfl
theorem cells9O : Tryz.prog.cellsOf 9 = 1 := by kernel_rfl
theorem starO : "*" ++ "errors.errorString" = "*errors.errorString" := by decide
theorem rowEO (u : TypeId) (h : Tryz.prog.typeName? 3 u = some "*errors.errorString") : u = 195 :=
  typeName_ptr_named (nm := "errors.errorString") (by rw [starO]; kernel_rfl) (by kernel_rfl) (by decide) u (by rw [starO]; exact h)
theorem env_laidO {W : World} (h : laidMet Tryz.prog [("math/bits.deBruijn32tab", Rows.laid_math_bits_deBruijn32tab), ("math/bits.deBruijn64tab", Rows.laid_math_bits_deBruijn64tab), ("internal/strconv.uint64pow10", Rows.laid_internal_strconv_uint64pow10), ("unicode/utf8.acceptRanges", Rows.laid_unicode_utf8_acceptRanges), ("strconv.ErrRange", Rows.laid_strconv_ErrRange), ("strconv.ErrSyntax", Rows.laid_strconv_ErrSyntax), ("mullion/keys.specials", Rows.laid_mullion_keys_specials), ("mullion/keys.modifiers", Rows.laid_mullion_keys_modifiers), ("mullion/keys.named", Rows.laid_mullion_keys_named), ("unicode/utf8.first", Rows.laid_unicode_utf8_first)] W) : Env W := by
  have hP := Lib.tabIs_of_head (zs := Lib.pow10Tab) gPO gPTypeO Tryz.underlying204 Tryz.underlying136 cellsUO cellsPO (show laidMet Tryz.prog (("internal/strconv.uint64pow10", Lib.tabData .u64 Lib.pow10Tab) :: _) W from h.tail.tail)
  obtain ⟨a0, s0, hv0, -, -, -⟩ := laid_sentinel h.tail.tail.tail.tail gERO gERTypeO Tryz.underlying138 rowEO Tryz.underlying195 Tryz.underlying197 rfl rfl Tryz.underlying9 cellsSO cells9O
  obtain ⟨a1, s1, hv1, -, -, -⟩ := laid_sentinel h.tail.tail.tail.tail.tail gESO gESTypeO Tryz.underlying138 rowEO Tryz.underlying195 Tryz.underlying197 rfl rfl Tryz.underlying9 cellsSO cells9O
  refine ⟨⟨hP, ⟨_, _, hv1⟩, ⟨_, _, hv0⟩⟩, ?_⟩
  refine ⟨sp_laid (Lib.laidMet.reads h (by simp)), nm_laid (Lib.laidMet.reads h (by simp)), md_laid (Lib.laidMet.reads h (by simp)), ?_⟩
  have h3 : Lib.VarReads Tryz.prog W "unicode/utf8.first" Lib.firstData := by rw [← first_data]; exact Lib.laidMet.reads h (by simp)
  have h4 : Lib.VarReads Tryz.prog W "unicode/utf8.acceptRanges" Lib.acceptData := by rw [← accept_data]; exact Lib.laidMet.reads h (by simp)
  exact Go.Proofs.utf8Tabs_of_readsT u8t u8x h3 h4
end Go.Proofs.YtgdkpmfdpfjdjaaGreatDoor
