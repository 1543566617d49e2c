/-
  Buffers: the oldest automatic ones go.
-/
import Derived.Test.YtgbaeajcgiaboaaDoorUPush
namespace Go.Proofs.YtgbaeajcgiaboaaDoor
open Go.RowKit
set_option linter.unusedVariables false
set_option maxRecDepth 100000

theorem autos_take (l : List Kp) (k : Nat) (hk : k < l.length) : autos (l.take (k + 1)) = autos (l.take k) + (if l[k].a then 1 else 0) := by
  rw [List.take_add_one, List.getElem?_eq_getElem hk, Option.toList_some, autos_append, autos_cons]
  simp [autos]
theorem trimG_take (r : Nat) (l : List Kp) (k : Nat) (hk : k < l.length) : trimG r (l.take (k + 1)) = trimG r (l.take k) ++ (if l[k].a = true ∧ r ≤ autos (l.take k) then [] else [l[k]]) := by
  rw [List.take_add_one, List.getElem?_eq_getElem hk, Option.toList_some, trimG_snoc]
theorem Src.fresh2 {P : Program} {tx e' : TypeId} (hk : P.underlying tx = some (.slice e')) (Y : World) (o : Obj) (cs : Array Value) (T : TypeId) (k : Nat) (hl : cs.size = k) (h1 : cs.toList.all (fun u => u.oneCell') = true) : Src P k tx (.slice (some ⟨Y.heap.size + 1, 0, none⟩) 1 1) 1 cs.toList ((Y.alloc o).alloc (.cells cs T)) := by
  have e : (Y.alloc o).heap.size = Y.heap.size + 1 := by simp
  rw [← e]
  exact Src.fresh hk (Y.alloc o) cs T k hl h1
/-- The list that is left so far. -/
structure Lft (w wr : World) (v : Value) (l : List Kp) : Prop where
  below : Below w.heap.size w wr
  row : KpsAt wr v l
  own : ∀ g, v.ownBlock = some g → w.heap.size ≤ g
theorem Lft.alloc {w wr : World} {v : Value} {l : List Kp} (h : Lft w wr v l) (o : Obj) : Lft w (wr.alloc o) v l :=
  ⟨h.below.alloc h.below.size o, Row.below h.row ((Below.refl _ _).alloc (Nat.le_refl _) _), h.own⟩
theorem Lft.grown {w wr w2 : World} {v v2 : Value} {l : List Kp} (h : Lft w wr v l) (x : Kp) (hr : Row w2 54 3 v2 (l.length + 1) (cellsK l ++ encK x)) (hg : Grown wr w2 v v2 v.ownBlock.toList) : Lft w w2 v2 (l ++ [x]) := by
  refine ⟨hg.but.under h.below h.below.size (fun k hk => h.own k (by simpa using hk)), ?_, fun g hq => ?_⟩
  · unfold KpsAt
    rw [cellsK_append, List.length_append, cellsK_cons]
    simpa [cellsK] using hr
  · rcases hg.own with z | z
    · exact h.own g (z ▸ hq)
    · rw [z] at hq
      cases hq
      exact h.below.size
set_option maxHeartbeats 8000000 in
theorem trim_any {w : World} {b : Nat} {v : Value} {l : List Kp} {lim : Nat} {c : Int} (h : Bf w b v l (lim : Int) c) (hlim : lim ≤ 1000000) (hlen : l.length ≤ 1000000) :
    Calls Tryd.prog 40 #[.pointer (some ⟨b, 0, none⟩)] w fun e w' => e = .returned (.tuple #[]) ∧ ∃ v', Bf w' b v' (trimG lim l) (lim : Int) c ∧ Stp w w' b v v' := by
  obtain ⟨ad, cp, rfl, hle, hcm, hnil, hsome⟩ := h.row.shape
  have c0 : w.cell? ⟨b, 0, none⟩ = some _ := cell_at h.hd 0
  have c1 : w.cell? ⟨b, 1, none⟩ = some _ := cell_at h.hd 1
  have HH := hidK h
  have hlt := h.lt
  obtain ⟨n, hn⟩ : ∃ n, l.length = n := ⟨_, rfl⟩
  have HN := hidK hn
  have HS := hidK hsome
  have HNil := hidK hnil
  have hn63 : n ≤ 1000000 := by omega
  rw [hn] at c0 HH ⊢
  have HC0 := hidK c0
  clear hn hsome hnil h hle hcm hlen
  go_enter Tryd.func40, Tryd.ntmps40
  go_wp2_with fail
  go_loopw [2, 3, 15] (fun i s j wr => ∃ k m : Nat, ∃ (a : Option Addr) (q p : Nat), k ≤ n ∧ m ≤ k ∧ i = .int .i64 ((lim : Int) - (m : Int)) ∧ s = .slice a q p ∧ j = .int .i64 k ∧ Hid (Lft w wr (.slice a q p) (trimG lim (l.take k))) ∧ Hid (autos (l.take k) = m)) (fun _ _ j _ => n - (intOf j).toNat)
  case atStart => exact ⟨0, 0, none, 0, 0, Nat.zero_le _, Nat.zero_le _, by simp, rfl, rfl, ⟨Below.refl _ _, Row.nil _ _ _, fun g hg => by cases hg⟩, rfl⟩
  case round =>
    obtain ⟨k, m, a, q, p, hk, hm, rfl, rfl, rfl, HL, HT⟩ := hrel
    by_cases hlt2 : k < n
    · have hkl : k < l.length := by rw [HN.out]; exact hlt2
      cases ad with
      | none => have := (HNil.out rfl).1; rw [this] at hkl; simp at hkl
      | some ad =>
        obtain ⟨g0, o0, rfl, hob, hgl, hat⟩ := HS.out _ rfl
        have hcells := fun c u hu => hat wr (HL.out.below.block g0 hgl) k hkl c u hu
        have ht := autos_take l k hkl
        have htr := trimG_take lim l k hkl
        obtain ⟨⟨n1, t1, a1⟩, hx⟩ : ∃ q, l[k] = q := ⟨_, rfl⟩
        rw [hx] at hcells ht htr
        rw [HT.out] at ht htr
        have c0 : wr.cell? ⟨g0, o0 + k * 3, none⟩ = some (.string n1) := hcells 0 _ rfl
        have c1 : wr.cell? ⟨g0, o0 + k * 3 + 1, none⟩ = some (.string t1) := hcells 1 _ rfl
        have c2 : wr.cell? ⟨g0, o0 + k * 3 + 2, none⟩ = some (.bool a1) := hcells 2 _ rfl
        have hi1 : (k : Int) < (n : Int) := by omega
        have hsz : (trimG lim (l.take k)).length ≤ 1000000 := Nat.le_trans (trimG_len _ _) (by rw [List.length_take]; omega)
        clear hcells hat hx
        cases a1 with
        | false =>
          have HQ : Hid (autos (l.take (k + 1)) = m) := ht
          have HR : Hid (trimG lim (l.take (k + 1)) = trimG lim (l.take k) ++ [⟨n1, t1, false⟩]) := by rw [htr]; rfl
          have HV := hidK ((HL.out.alloc (.cells #[.string n1, .string t1, .bool false] 54)).alloc (.cells #[.string n1, .string t1, .bool false] 54))
          have HSr := hidK (Src.fresh2 (P := Tryd.prog) underK wr (.cells #[.string n1, .string t1, .bool false] 54) #[.string n1, .string t1, .bool false] 54 3 rfl rfl)
          clear ht htr
          go_wp2_with (at_builtin; refine wpList_append_row ((wr.alloc (.cells #[.string n1, .string t1, .bool false] 54)).alloc (.cells #[.string n1, .string t1, .bool false] 54)) rfl _ _ 43 43 rfl underK infoKe rfl rfl rfl HV.out.row HSr.out (by omega) (by unfold maxLen; omega) ?_; intro v2 w2 hr hg; have HV2 := hidK (HV.out.grown ⟨n1, t1, false⟩ hr.out hg.out); clear hr hg; obtain ⟨a2, q2, p2, rfl⟩ := HV2.out.row.sl)
          go_roundw
          case rel => exact ⟨k + 1, m, a2, q2, p2, by omega, by omega, rfl, rfl, by go_num, by rw [HR.out]; exact HV2, HQ⟩
          case measure => simp [intOf]; omega
        | true =>
          have HQ : Hid (autos (l.take (k + 1)) = m + 1) := ht
          by_cases hr0 : lim ≤ m
          · have HR : Hid (trimG lim (l.take (k + 1)) = trimG lim (l.take k)) := by rw [htr, if_pos ⟨rfl, hr0⟩, List.append_nil]; exact hidK rfl
            have HV := hidK (HL.out.alloc (.cells #[.string n1, .string t1, .bool true] 54))
            have hneg : ¬ (0 : Int) ≤ (lim : Int) - (m : Int) - 1 := by omega
            clear ht htr
            go_wp2_with fail
            go_roundw
            case rel => exact ⟨k + 1, m + 1, a, q, p, by omega, by omega, by go_num, rfl, by go_num, by rw [HR.out]; exact HV, HQ⟩
            case measure => simp [intOf]; omega
          · have HR : Hid (trimG lim (l.take (k + 1)) = trimG lim (l.take k) ++ [⟨n1, t1, true⟩]) := by rw [htr, if_neg (fun h => hr0 h.2)]; exact hidK rfl
            have hneg : (0 : Int) ≤ (lim : Int) - (m : Int) - 1 := by omega
            have HV := hidK ((HL.out.alloc (.cells #[.string n1, .string t1, .bool true] 54)).alloc (.cells #[.string n1, .string t1, .bool true] 54))
            have HSr := hidK (Src.fresh2 (P := Tryd.prog) underK wr (.cells #[.string n1, .string t1, .bool true] 54) #[.string n1, .string t1, .bool true] 54 3 rfl rfl)
            clear ht htr
            go_wp2_with (at_builtin; refine wpList_append_row ((wr.alloc (.cells #[.string n1, .string t1, .bool true] 54)).alloc (.cells #[.string n1, .string t1, .bool true] 54)) rfl _ _ 43 43 rfl underK infoKe rfl rfl rfl HV.out.row HSr.out (by omega) (by unfold maxLen; omega) ?_; intro v2 w2 hr hg; have HV2 := hidK (HV.out.grown ⟨n1, t1, true⟩ hr.out hg.out); clear hr hg; obtain ⟨a2, q2, p2, rfl⟩ := HV2.out.row.sl)
            go_roundw
            case rel => exact ⟨k + 1, m + 1, a2, q2, p2, by omega, by omega, by go_num, rfl, by go_num, by rw [HR.out]; exact HV2, HQ⟩
            case measure => simp [intOf]; omega
    · have hl : l.take k = l := List.take_of_length_le (by have := HN.out; omega)
      rw [hl] at HL
      have d1 := (HL.out.below.block b hlt).trans HH.out.hd
      have e0 : wr.cell? ⟨b, 0, none⟩ = some (.slice ad n cp) := cell_at d1 0
      have e1 : wr.frozen? ⟨b, 0, none⟩ = false := free_at d1 0
      have HB : Hid (Bf (wr.setCell ⟨b, 0, none⟩ (.slice a q p)) b (.slice a q p) (trimG lim l) (lim : Int) c) := (HH.out.below HL.out.below).turnB (But.refl _ _) HL.out.row
      have HS2 : Hid (Stp w (wr.setCell ⟨b, 0, none⟩ (.slice a q p)) b (.slice ad n cp) (.slice a q p)) := ⟨((But.of HL.out.below).setCell (p := ⟨b, 0, none⟩) (.inl (by simp)) _), fun g hg => .inr (HL.out.own g hg)⟩
      clear hl d1
      go_wp2_with fail
      first | (refine bodyPost_ret (results_none rfl _ _ _) rfl ?_) | (refine bodyPost_end (results_none rfl _ _ _) rfl ?_)
      exact ⟨rfl, _, HB.out, HS2.out⟩
end Go.Proofs.YtgbaeajcgiaboaaDoor
