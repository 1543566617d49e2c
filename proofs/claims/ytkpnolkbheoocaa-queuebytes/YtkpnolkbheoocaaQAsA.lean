/-
  The law's own functions: lists, sameInts, as.
-/
import Derived.Test.YtkpnolkbheoocaaQPaR
import Derived.Test.YtkpnolkbheoocaaQRefG
import Derived.Test.YtkpnolkbheoocaaQDis
import Derived.WalkKit
import Derived.Deep.RegionLaw
import Derived.Deep.RegionHeld3
namespace Go.Proofs.Ytkpnolkbheoocaa
open Go.RowKit
set_option linter.unusedVariables false
set_option maxRecDepth 100000

theorem hidK {p : Prop} (h : p) : Hid p := h
theorem infoStr : (Try.prog.info? 9).map (fun i => (i.zero, i.size, i.bytes)) = some (some (.string ⟨#[]⟩), 1, 16) := by kernel_rfl
theorem underStrs : Try.prog.underlying 33 = some (.slice 9) := by kernel_rfl
def strsV (ls : List (List UInt8)) : List Value := ls.map fun l => .string (str l)
theorem strs_src {w : World} {v : Value} {ls : List (List UInt8)} (h : Strs w v ls) : Src Try.prog 1 33 v ls.length (strsV ls) w := by
  obtain ⟨ad, cap, rfl, h1, h2, h3, h4, h5⟩ := h
  have hone : ∀ u ∈ strsV ls, u.oneCell' = true := fun u hu => by
    obtain ⟨l, _, rfl⟩ := List.mem_map.1 hu
    rfl
  cases ls with
  | nil =>
    cases ad with
    | none => exact Src.ofNil _ underStrs cap
    | some a => exact Src.ofSlice _ underStrs a 0 cap [] rfl (fun j u hu => by simp at hu) (fun u hu => by cases hu)
  | cons x ls =>
    obtain ⟨g, o, rfl, h6, h7⟩ := h5 (by simp)
    refine Src.ofSlice _ underStrs _ _ cap _ (by simp [strsV]) (fun j u hu => ?_) hone
    rw [show (⟨g, o, none⟩ : Addr).add j = ⟨g, o + j, none⟩ by unfold Addr.add; split <;> simp_all]
    unfold strsV at hu
    rw [List.getElem?_map] at hu
    obtain ⟨l, hl, rfl⟩ := Option.map_eq_some_iff.1 hu
    exact h7 j l hl
/-- A row of texts of one's own can be read. -/
theorem Row.strs {w : World} {v : Value} {ls : List (List UInt8)} (h : Row w 9 1 v ls.length (strsV ls)) (h1 : ls.length ≤ 8796093022208) (h4 : ∀ l ∈ ls, l.length ≤ 9223372036854775807) : Strs w v ls := by
  obtain ⟨ad, cap, rfl, k1, k2, k3, k4⟩ := h.shape
  refine ⟨ad, cap, rfl, h1, k1, by unfold maxLen at k2; omega, h4, fun hne => ?_⟩
  cases ad with
  | none => exact absurd (List.length_eq_zero_iff.1 (k3 rfl).1) hne
  | some a =>
    obtain ⟨g, o, rfl, _, k6, k7⟩ := k4 a rfl
    refine ⟨g, o, rfl, k6, fun i l hl => (k7 w rfl).1 i _ ?_⟩
    unfold strsV
    rw [List.getElem?_map, hl]
    rfl

theorem lists_any {w : World} {v : Value} {ls : List (List UInt8)} (h : Strs w v ls) :
    Calls Try.prog 22 #[v] w fun e w' => ∃ v', e = .returned v' ∧ Mine w w' 9 1 v' ls.length (strsV ls) := by
  obtain ⟨ad, cap, hv, h1, -⟩ := id h
  have HS : Hid (Src Try.prog 1 33 v ls.length (strsV ls) w) := strs_src h
  obtain ⟨n, hn⟩ : ∃ n, ls.length = n := ⟨_, rfl⟩
  rw [hn] at hv h1 HS ⊢
  subst hv
  clear h hn
  go_enter Try.func22, Try.ntmps22
  go_wp2_with (refine wpList_append_row w rfl _ _ 33 33 rfl underStrs infoStr rfl (v := .slice none 0 0) (by simp [Act.eval]) (u := .slice ad n cap) (by simp [Act.eval]) (Row.nil _ _ _) HS.out ?x1 ?x2 ?x3)
  case x1 => omega
  case x2 => unfold maxLen; omega
  case x3 =>
    intro v1 w1 hr1 hg1
    have HM : Hid (Mine w w1 9 1 v1 n (strsV ls)) := ((Mine.nil (Below.refl _ _)).grown (Below.refl _ _) hr1.out hg1.out).cast (by omega) (by simp)
    clear hr1 hg1
    go_wp2
    all_goals go_ret
    all_goals exact ⟨v1, rfl, HM.out⟩

theorem Ints.get {w : World} {v : Value} {zs : List Int} (h : Ints w v zs) : ∃ ad cap, v = .slice ad zs.length cap ∧ (∀ W : World, Below w.heap.size w W → ∀ (i : Nat) (z : Int), zs[i]? = some z → ∃ g o, ad = some ⟨g, o, none⟩ ∧ W.cell? ⟨g, o + i, none⟩ = some (.int .i64 z)) := by
  obtain ⟨ad, cap, hv, k1, k2, k3, k4⟩ := Row.shape h
  refine ⟨ad, cap, hv, fun W hW i z hz => ?_⟩
  cases ad with
  | none =>
    have := (k3 rfl).1
    have hl := (List.getElem?_eq_some_iff.1 hz).1
    omega
  | some a =>
    obtain ⟨g, o, rfl, _, k6, k7⟩ := k4 a rfl
    exact ⟨g, o, rfl, (k7 W (hW.block g k6)).1 i _ (by rw [List.getElem?_map, hz]; rfl)⟩
theorem same_any {w : World} {va vb : Value} {zs : List Int} (ha : Ints w va zs) (hb : Ints w vb zs) (hl : zs.length ≤ 1000000) :
    Calls Try.prog 15 #[va, vb] w fun e w' => e = .returned (.bool true) ∧ Below w.heap.size w w' := by
  obtain ⟨aa, ca, rfl, hca⟩ := Ints.get ha
  obtain ⟨ab, cb, rfl, hcb⟩ := Ints.get hb
  obtain ⟨n, hn⟩ : ∃ n, zs.length = n := ⟨_, rfl⟩
  have HN : Hid (zs.length = n) := hn
  have HA : Hid (∀ W, Below w.heap.size w W → ∀ (i : Nat) (z : Int), zs[i]? = some z → (∃ g o, aa = some ⟨g, o, none⟩ ∧ W.cell? ⟨g, o + i, none⟩ = some (.int .i64 z)) ∧ ∃ g o, ab = some ⟨g, o, none⟩ ∧ W.cell? ⟨g, o + i, none⟩ = some (.int .i64 z)) := fun W hW i z hz => ⟨hca W hW i z hz, hcb W hW i z hz⟩
  rw [hn] at hl ⊢
  clear ha hb hca hcb hn
  go_enter Try.func15, Try.ntmps15
  go_wp2_with fail
  go_loopw [5] (fun s5 wr => ∃ i : Nat, i ≤ n ∧ s5 = .int .i64 i ∧ Hid (Below w.heap.size w wr)) (fun v _ => n - (intOf v).toNat)
  case atStart => exact ⟨0, Nat.zero_le _, rfl, Below.refl _ _⟩
  case round =>
    obtain ⟨i, hi, rfl, HB⟩ := hrel
    by_cases hlt : i < n
    · obtain ⟨z, hz⟩ : ∃ z, zs[i]? = some z := ⟨_, List.getElem?_eq_getElem (by rw [HN.out]; exact hlt)⟩
      obtain ⟨⟨g1, o1, rfl, q1⟩, g2, o2, rfl, q2⟩ := HA.out wr HB.out i z hz
      clear hz
      go_wp2_with fail
      go_region
      all_goals (
        go_wp2_with fail
        go_roundw
        case rel => exact ⟨i + 1, by omega, by go_num, HB.out.drew⟩
        case measure => simp [intOf]; omega)
    · obtain rfl : i = n := by omega
      go_wp2
      all_goals go_ret
      all_goals exact ⟨rfl, HB.out⟩

theorem Told.same {w w1 w2 : World} {os : List (Int × Int)} {va vb : Value} (ha : Told w w1 os va) (hb : Told w1 w2 os vb) : ∃ zs, Ints w2 va zs ∧ Ints w2 vb zs ∧ zs.length ≤ 1000000 := by
  obtain ⟨za, a1, a2, a3, a4, a5, a6⟩ := ha
  obtain ⟨zb, b1, b2, b3, b4, b5, b6⟩ := hb
  have e : za = zb := rising_eq a2 b2 fun x => (a3 x).trans (b3 x).symm
  subst e
  exact ⟨za, Row.below a1 b4, b1, a6⟩

end Go.Proofs.Ytkpnolkbheoocaa
