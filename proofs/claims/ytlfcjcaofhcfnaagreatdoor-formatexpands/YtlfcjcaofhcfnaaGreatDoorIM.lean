/-
  Formats: the document's pieces of a text; blanks; one text exchanged for another.
  Formats: the document's exchange of one text for another.
  Formats: a text turned, as the document says it.
-/
import Derived.Test.YtlfcjcaofhcfnaaGreatDoorIB
import Derived.Test.YtlfcjcaofhcfnaaGreatDoorGF
namespace Go.Proofs.YtlfcjcaofhcfnaaGreatDoor
open Go.RowKit
set_option linter.unusedVariables false
set_option maxRecDepth 100000

/-- How far the cutting has come. -/
structure PieD (c : UInt8) (l : List UInt8) (k b : Nat) (ps R : List (List UInt8)) : Prop where
  all : ps ++ splitG c ((l.drop b).take (k - b)) (l.drop k) = R
  le : b ≤ k
theorem PieD.cut {c : UInt8} {l : List UInt8} {k b : Nat} {ps R : List (List UInt8)} (h : PieD c l k b ps R) (hc : l[k]? = some c) : PieD c l (k + 1) (k + 1) (ps ++ [(l.drop b).take (k - b)]) R := by
  have h1 := h.all
  rw [drop_two hc] at h1
  simp only [splitG, if_true] at h1
  refine ⟨?_, Nat.le_refl _⟩
  rw [← h1, Nat.sub_self, List.take_zero, List.append_assoc]
  rfl
theorem PieD.pass {c d : UInt8} {l : List UInt8} {k b : Nat} {ps R : List (List UInt8)} (h : PieD c l k b ps R) (hc : l[k]? = some d) (hd : d ≠ c) : PieD c l (k + 1) b ps R := by
  have h1 := h.all
  have hle := h.le
  rw [drop_two hc] at h1
  simp only [splitG, if_neg hd] at h1
  refine ⟨?_, by omega⟩
  rw [← h1]
  congr 2
  rw [show k + 1 - b = (k - b) + 1 by omega, List.take_add, List.drop_drop, show b + (k - b) = k by omega, drop_two hc]
  rfl
theorem PieD.done {c : UInt8} {l : List UInt8} {k b : Nat} {ps R : List (List UInt8)} (h : PieD c l k b ps R) (hk : l.length ≤ k) : ps ++ [l.drop b] = R := by
  have h1 := h.all
  have hle := h.le
  rw [List.drop_eq_nil_of_le hk, List.take_of_length_le (by rw [List.length_drop]; omega)] at h1
  exact h1
theorem PieD.few {c : UInt8} {l : List UInt8} {k b : Nat} {ps R : List (List UInt8)} (h : PieD c l k b ps R) : ps.length ≤ R.length := by
  rw [← h.all, List.length_append]
  omega
set_option maxHeartbeats 4000000 in
theorem piecesR_any (l : List UInt8) (hl : l.length ≤ 2147483647) (s : UInt8) (w : World) : Calls Tryz.prog 142 #[.string (str l), .int .u8 (s.toNat : Int)] w fun e w' => ∃ v, e = .returned v ∧ Texts w w' v (splitG s [] l) := by
  have HD : Hid (∀ k, (str l).extract k (str l).size = str (l.drop k)) := str_dropF l
  have HE : Hid (∀ i j, (str l).extract i j = str ((l.drop i).take (j - i))) := str_midF l
  have HG : Hid (∀ (k : Nat) (c : UInt8) (h : k < (str l).size), l[k]? = some c → (str l)[k] = c) := fun k c h hc => str_getF l k c hc h
  obtain ⟨z, hz⟩ : ∃ z, str l = z := ⟨_, rfl⟩
  have hs : z.size = l.length := by rw [← hz]; rfl
  obtain ⟨R, hR⟩ : ∃ R, splitG s [] l = R := ⟨_, rfl⟩
  have HR : Hid (PieD s l 0 0 [] R) := ⟨hR, Nat.le_refl _⟩
  have HRl : Hid (R.length ≤ l.length + 1) := by rw [← hR]; exact splitG_count _ _ _
  rw [hz, hR]
  rw [hz] at HD HE HG
  obtain ⟨n, hn⟩ : ∃ n, l.length = n := ⟨_, rfl⟩
  rw [hn] at hs hl HRl
  have HN : Hid (l.length = n) := hn
  clear hz hR hn
  go_enter Tryz.func142, Tryz.ntmps142
  go_wp2_with fail
  go_loopw [5, 6, 7] (fun s5 s6 s7 wx => ∃ (k b : Nat) (ps : List (List UInt8)), k ≤ n ∧ b ≤ n ∧ s7 = .int .i64 (k : Int) ∧ s6 = .int .i64 (b : Int) ∧ Hid (PieD s l k b ps R) ∧ Hid (Texts w wx s5 ps)) (fun _ _ v _ => n - (intOf v).toNat)
  case atStart => exact ⟨0, 0, [], Nat.zero_le _, Nat.zero_le _, rfl, rfl, HR.out, Mine.nil (Below.refl _ _)⟩
  case round =>
    obtain ⟨k, b, ps, hk, hb, rfl, rfl, HS, HM⟩ := hrel
    obtain ⟨sp, hsp⟩ : ∃ sp, u5 = sp := ⟨_, rfl⟩
    rw [hsp] at HM ⊢
    clear hsp
    have hbk := HS.out.le
    have hfew := HS.out.few
    have hfe := HRl.out
    by_cases hkn : k < n
    · obtain ⟨c, hc⟩ : ∃ c, l[k]? = some c := ⟨_, List.getElem?_eq_getElem (by rw [HN.out]; exact hkn)⟩
      have hkz : k < z.size := by omega
      have hgc := HG.out k c hkz hc
      have HEk := hidK (HE.out b k)
      by_cases hcs : c.toNat = s.toNat
      · have hcs2 : c = s := UInt8.toNat_inj.1 hcs
        have HS2 := hidK (HS.out.cut (by rw [hc, hcs2]))
        obtain ⟨y2, hy2⟩ : ∃ y2, str ((l.drop b).take (k - b)) = y2 := ⟨_, rfl⟩
        rw [hy2] at HEk
        have HY2 := hidK hy2
        have hex := HEk.out
        have hci : (c.toNat : Int) = (s.toNat : Int) := by omega
        clear hc hcs2 hy2 HEk HS hcs
        go_wp2_with (refine wpList_append_row (wr.alloc (.cells #[.string y2] 9)) rfl _ _ 127 127 rfl underStrs infoStr rfl (v := sp) (by simp [Act.eval]) (u := .slice (some ⟨wr.heap.size, 0, none⟩) 1 1) (by simp [Act.eval]) (HM.out.row.below ((Below.refl _ _).alloc (Nat.le_refl _) _)) (Src.block underStrs _ _ [.string y2] _ 1 (heap_alloc_new wr _) rfl rfl) ?x1 ?x2 ?x3)
        case x1 => omega
        case x2 => unfold maxLen; omega
        case x3 =>
          intro v7 w7 hr7 hg7
          have HM7 := hidK ((HM.out.grown ((Below.refl _ _).alloc (Nat.le_refl _) _) hr7.out hg7.out).cast (n' := (ps ++ [(l.drop b).take (k - b)]).length) (xs' := strsV (ps ++ [(l.drop b).take (k - b)])) (by simp) (by rw [strs_snoc, HY2.out]))
          clear hr7 hg7 HM HY2
          go_wp2_with fail
          all_goals (
            go_roundw
            case rel => exact ⟨k + 1, k + 1, _, by omega, by omega, by go_num, by go_num, HS2.out, HM7.out⟩
            case measure => simp [intOf]; omega)
      · have HS2 := hidK (HS.out.pass hc (fun e => hcs (by rw [e])))
        have hci : ¬ (c.toNat : Int) = (s.toNat : Int) := by omega
        clear hc HEk HS hcs
        go_wp2_with fail
        all_goals (
          go_roundw
          case rel => exact ⟨k + 1, b, ps, by omega, by omega, by go_num, rfl, HS2.out, HM.out⟩
          case measure => simp [intOf]; omega)
    · obtain rfl : k = n := by omega
      have HQ := hidK (HS.out.done (by rw [HN.out]; exact Nat.le_refl _))
      have HDk := hidK (HD.out b)
      rw [hs] at HDk
      obtain ⟨y, hy⟩ : ∃ y, str (l.drop b) = y := ⟨_, rfl⟩
      rw [hy] at HDk
      have HY := hidK hy
      have hdx := HDk.out
      clear hy HDk HS
      go_wp2_with (refine wpList_append_row (wr.alloc (.cells #[.string y] 9)) rfl _ _ 127 127 rfl underStrs infoStr rfl (v := sp) (by simp [Act.eval]) (u := .slice (some ⟨wr.heap.size, 0, none⟩) 1 1) (by simp [Act.eval]) (HM.out.row.below ((Below.refl _ _).alloc (Nat.le_refl _) _)) (Src.block underStrs _ _ [.string y] _ 1 (heap_alloc_new wr _) rfl rfl) ?x1 ?x2 ?x3)
      case x1 => omega
      case x2 => unfold maxLen; omega
      case x3 =>
        intro v7 w7 hr7 hg7
        have HM7 := hidK ((HM.out.grown ((Below.refl _ _).alloc (Nat.le_refl _) _) hr7.out hg7.out).cast (n' := (ps ++ [l.drop b]).length) (xs' := strsV (ps ++ [l.drop b])) (by simp) (by rw [strs_snoc, HY.out]))
        clear hr7 hg7 HM HY
        go_wp2_with fail
        all_goals go_ret
        all_goals exact ⟨_, rfl, by rw [← HQ.out]; exact HM7.out⟩

set_option maxHeartbeats 1000000 in
theorem blanksR_any (k : Int) (hk : k ≤ 10000) (hk0 : -2147483648 ≤ k) (w : World) : Calls Tryz.prog 144 #[.int .i64 k] w fun e w' => e = .returned (.string (str (List.replicate k.toNat 32))) ∧ w = w' := by
  have HCat : Hid (∀ i : Nat, str (List.replicate i 32) ++ (⟨#[32]⟩ : ByteArray) = str (List.replicate (i + 1) 32)) := fun i => by
    have e : (⟨#[32]⟩ : ByteArray) = str [32] := rfl
    rw [e, str_cat, List.replicate_succ']
  obtain ⟨n, hn⟩ : ∃ n, k.toNat = n := ⟨_, rfl⟩
  rw [hn]
  have HN := hidK hn
  have hn2 : n ≤ 10000 := by omega
  clear hn
  go_enter Tryz.func144, Tryz.ntmps144
  go_wp2_with fail
  go_loopw [3, 4] (fun s3 s4 wx => ∃ (i : Nat), i ≤ n ∧ s4 = .int .i64 (i : Int) ∧ s3 = .string (str (List.replicate i 32)) ∧ wx = w) (fun _ v _ => n - (intOf v).toNat)
  case atStart => exact ⟨0, Nat.zero_le _, rfl, rfl, rfl⟩
  case round =>
    obtain ⟨i, hi, rfl, rfl, rfl⟩ := hrel
    by_cases hin : i < n
    · have hc := HCat.out i
      have hs1 : (str (List.replicate i 32)).size = i := List.length_replicate
      obtain ⟨y, hy⟩ : ∃ y, str (List.replicate i 32) = y := ⟨_, rfl⟩
      obtain ⟨z, hz⟩ : ∃ z, str (List.replicate (i + 1) 32) = z := ⟨_, rfl⟩
      have HZ := hidK hz
      rw [hy, hz] at hc
      rw [hy] at hs1 ⊢
      have k1 : (i : Int) < k := by have := HN.out; omega
      have d2 : ¬ 9223372036854775807 < y.size + 1 := by omega
      clear hy hz
      go_wp2_with fail
      all_goals (
        go_roundw
        case rel => exact ⟨i + 1, by omega, by go_num, by rw [HZ.out], by first | rfl | trivial⟩
        case measure => simp [intOf]; omega)
    · obtain rfl : i = n := by omega
      have k1 : ¬ (i : Int) < k := by have := HN.out; omega
      go_wp2_with fail
      all_goals go_ret
      all_goals exact ⟨rfl, rfl⟩

end Go.Proofs.YtlfcjcaofhcfnaaGreatDoor

namespace Go.Proofs.YtlfcjcaofhcfnaaGreatDoor
open Go.RowKit
set_option linter.unusedVariables false
set_option maxRecDepth 100000

def exchD (x y : List UInt8) : Nat → List UInt8 → List UInt8
  | 0, _ => []
  | _ + 1, [] => []
  | f + 1, c :: r => if (c :: r).take x.length = x then y ++ exchD x y f ((c :: r).drop x.length) else c :: exchD x y f r
def exchR (x y l : List UInt8) : List UInt8 := exchD x y l.length l
theorem exchD_fuel (x y : List UInt8) (hx : x ≠ []) : ∀ (f g : Nat) (l : List UInt8), l.length ≤ f → l.length ≤ g → exchD x y f l = exchD x y g l
  | 0, 0, l, _, _ => rfl
  | 0, g + 1, l, h, _ => by
    have e : l = [] := List.length_eq_zero_iff.1 (by omega)
    subst e
    rfl
  | f + 1, 0, l, _, h => by
    have e : l = [] := List.length_eq_zero_iff.1 (by omega)
    subst e
    rfl
  | f + 1, g + 1, [], _, _ => rfl
  | f + 1, g + 1, c :: r, h1, h2 => by
    have hx1 := List.length_pos_iff.2 hx
    simp only [List.length_cons] at h1 h2
    simp only [exchD]
    split
    · rw [exchD_fuel x y hx f g _ (by rw [List.length_drop, List.length_cons]; omega) (by rw [List.length_drop, List.length_cons]; omega)]
    · rw [exchD_fuel x y hx f g r (by omega) (by omega)]
theorem sliceF_two (A : ByteArray) (a K : Nat) (h : a + K ≤ A.size) (W : World) : (Instr.slice 9 (.string A) (some (.int .i64 (a : Int))) (some (.int .i64 ((a : Int) + (K : Int)))) none).run Tryz.prog W = .ok (.string (A.extract a (a + K))) W := by
  have h1 := run_slice_string (P := Tryz.prog) (w := W) 9 A .i64 .i64 (a : Int) ((a : Int) + (K : Int)) (by kernel_rfl) (by omega) (by omega) (by omega)
  rw [h1]
  rw [show ((a : Int) + (K : Int)).toNat = a + K by omega, show ((a : Int)).toNat = a by omega]
theorem sliceF_one (A : ByteArray) (a : Nat) (h : a + 1 ≤ A.size) (W : World) : (Instr.slice 9 (.string A) (some (.int .i64 (a : Int))) (some (.int .i64 ((a : Int) + 1))) none).run Tryz.prog W = .ok (.string (A.extract a (a + 1))) W := sliceF_two A a 1 h W
/-- How far the exchange has come. -/
structure ExI (x y l : List UInt8) (i : Nat) (out R : List UInt8) : Prop where
  all : ∃ f, l.length - i ≤ f ∧ out ++ exchD x y f (l.drop i) = R
  few : out.length ≤ i * (y.length + 1)
theorem ExI.hit {x y l : List UInt8} {i : Nat} {out R : List UInt8} (h : ExI x y l i out R) (hx : x ≠ []) (hi : i < l.length) (he : (l.drop i).take x.length = x) : ExI x y l (i + x.length) (out ++ y) R := by
  obtain ⟨f, hf, ha⟩ := h.all
  have hx1 := List.length_pos_iff.2 hx
  obtain ⟨f', rfl⟩ : ∃ f', f = f' + 1 := ⟨f - 1, by omega⟩
  obtain ⟨c, hc⟩ : ∃ c, l[i]? = some c := ⟨_, List.getElem?_eq_getElem hi⟩
  refine ⟨⟨f', by omega, ?_⟩, ?_⟩
  · rw [drop_two hc] at ha he
    simp only [exchD] at ha
    rw [if_pos he, ← drop_two hc, List.drop_drop] at ha
    rw [← ha, List.append_assoc]
  · have h1 := h.few
    rw [List.length_append, Nat.add_mul]
    have h2 : 1 * (y.length + 1) ≤ x.length * (y.length + 1) := Nat.mul_le_mul_right _ hx1
    omega
theorem ExI.miss {x y l : List UInt8} {i : Nat} {out R : List UInt8} (h : ExI x y l i out R) (hx : x ≠ []) {c : UInt8} (hc : l[i]? = some c) (he : ¬ (l.drop i).take x.length = x) : ExI x y l (i + 1) (out ++ [c]) R := by
  obtain ⟨f, hf, ha⟩ := h.all
  have hi := (List.getElem?_eq_some_iff.1 hc).1
  obtain ⟨f', rfl⟩ : ∃ f', f = f' + 1 := ⟨f - 1, by omega⟩
  refine ⟨⟨f', by omega, ?_⟩, ?_⟩
  · rw [drop_two hc] at ha he
    simp only [exchD] at ha
    rw [if_neg he] at ha
    rw [← ha, List.append_assoc]
    rfl
  · have h1 := h.few
    rw [List.length_append, Nat.add_mul]
    simp
    omega
theorem ExI.done {x y l : List UInt8} {i : Nat} {out R : List UInt8} (h : ExI x y l i out R) (hi : l.length ≤ i) : out = R := by
  obtain ⟨f, hf, ha⟩ := h.all
  rw [List.drop_eq_nil_of_le hi] at ha
  rw [← ha]
  cases f <;> simp [exchD]
set_option maxHeartbeats 4000000 in
theorem exchangedR_any (l x y : List UInt8) (hl : l.length ≤ 2147483647) (hx : x ≠ []) (hxl : x.length ≤ 2147483647) (hyl : y.length ≤ 1073741824) (w : World) :
    Calls Tryz.prog 145 #[.string (str l), .string (str x), .string (str y)] w fun e w' => e = .returned (.string (str (exchR x y l))) ∧ w = w' := by
  have HX0 := hidK hx
  have hs : (str l).size = l.length := rfl
  have hxs : (str x).size = x.length := rfl
  have hys : (str y).size = y.length := rfl
  have hxt : (str x).toList = x := str_toList x
  have HE : Hid (∀ i j, (str l).extract i j = str ((l.drop i).take (j - i))) := str_midF l
  have HO : Hid (∀ (i : Nat) (c : UInt8), l[i]? = some c → (str l).extract i (i + 1) = str [c]) := fun i c hc => by
    rw [str_midF, drop_two hc, show i + 1 - i = 1 by omega]
    rfl
  obtain ⟨R, hR⟩ : ∃ R, exchR x y l = R := ⟨_, rfl⟩
  have HI : Hid (ExI x y l 0 [] R) := ⟨⟨l.length, by omega, hR⟩, by simp⟩
  have hyx : 1 ≤ x.length := List.length_pos_iff.2 hx
  rw [hR]
  obtain ⟨z, hz⟩ : ∃ z, str l = z := ⟨_, rfl⟩
  obtain ⟨zx, hzx⟩ : ∃ z, str x = z := ⟨_, rfl⟩
  obtain ⟨zy, hzy⟩ : ∃ z, str y = z := ⟨_, rfl⟩
  have HZy := hidK hzy
  rw [hz] at hs HE HO ⊢
  rw [hzx] at hxs hxt ⊢
  rw [hzy] at hys ⊢
  obtain ⟨n, hn⟩ : ∃ n, l.length = n := ⟨_, rfl⟩
  obtain ⟨m, hm⟩ : ∃ n, x.length = n := ⟨_, rfl⟩
  obtain ⟨p, hp⟩ : ∃ n, y.length = n := ⟨_, rfl⟩
  have HN := hidK hn
  have HM := hidK hm
  have HP := hidK hp
  rw [hn] at hs hl
  rw [hm] at hxs hxl hyx
  rw [hp] at hys hyl
  clear hz hzx hzy hR hn hm hp hx
  go_enter Tryz.func145, Tryz.ntmps145
  go_wp2_with fail
  go_loopw [7, 8] (fun s7 s8 wx => ∃ (i : Nat) (out : List UInt8), i ≤ n ∧ s8 = .int .i64 (i : Int) ∧ s7 = .string (str out) ∧ Hid (ExI x y l i out R) ∧ wx = w) (fun _ v _ => n - (intOf v).toNat)
  case atStart => exact ⟨0, [], Nat.zero_le _, rfl, rfl, HI.out, rfl⟩
  case round =>
    obtain ⟨i, out, hi, rfl, rfl, HJ, rfl⟩ := hrel
    have hof : out.length ≤ 2147483647 * 1073741825 := by
      have h1 := HJ.out.few
      rw [HP.out] at h1
      have h2 : i * (p + 1) ≤ 2147483647 * 1073741825 := Nat.mul_le_mul (by omega) (by omega)
      omega
    have hos : (str out).size = out.length := rfl
    by_cases hin : i < n
    · obtain ⟨c, hc⟩ : ∃ c, l[i]? = some c := ⟨_, List.getElem?_eq_getElem (by rw [HN.out]; exact hin)⟩
      by_cases he : (l.drop i).take m = x
      · have him : i + m ≤ n := by
          have h1 := congrArg List.length he
          rw [List.length_take, List.length_drop, HN.out, HM.out] at h1
          omega
        have HJ2 := hidK (HJ.out.hit HX0.out (by rw [HN.out]; exact hin) (by rw [HM.out]; exact he))
        rw [HM.out] at HJ2
        have hex := HE.out i (i + m)
        rw [show i + m - i = m by omega, he] at hex
        have hsl := fun W => sliceF_two z i m (by omega) W
        have hcat := str_cat out y
        rw [HZy.out] at hcat
        have hxt2 : (str x).toList = zx.toList := by rw [hxt]; exact str_toList x
        obtain ⟨u, hu⟩ : ∃ u, str x = u := ⟨_, rfl⟩
        obtain ⟨q, hq⟩ : ∃ q, str out = q := ⟨_, rfl⟩
        obtain ⟨t, ht⟩ : ∃ q, str (out ++ y) = q := ⟨_, rfl⟩
        have HT := hidK ht
        rw [hu] at hex hxt2
        simp only [hex] at hsl
        rw [hq] at hcat hos ⊢
        rw [ht] at hcat
        have k1 : (i : Int) + (m : Int) ≤ (n : Int) := by omega
        have d2 : ¬ 9223372036854775807 < q.size + zy.size := by omega
        clear hu hq ht hc he hxt
        go_wp2_with fail
        all_goals (
          go_roundw
          case rel => exact ⟨i + m, out ++ y, by omega, by go_num, by rw [HT.out], HJ2.out, by first | rfl | trivial⟩
          case measure => simp [intOf]; omega)
      · have HJ2 := hidK (HJ.out.miss HX0.out hc (by rw [HM.out]; exact he))
        have hone := HO.out i c hc
        have hs1 := fun W => sliceF_one z i (by omega) W
        have hcat := str_cat out [c]
        have hex := HE.out i (i + m)
        rw [show i + m - i = m by omega] at hex
        have hut : (str ((l.drop i).take m)).toList = (l.drop i).take m := str_toList _
        obtain ⟨u, hu⟩ : ∃ u, str ((l.drop i).take m) = u := ⟨_, rfl⟩
        obtain ⟨q, hq⟩ : ∃ q, str out = q := ⟨_, rfl⟩
        obtain ⟨o1, ho1⟩ : ∃ q, str [c] = q := ⟨_, rfl⟩
        obtain ⟨t, ht⟩ : ∃ q, str (out ++ [c]) = q := ⟨_, rfl⟩
        have hos1 : o1.size = 1 := by rw [← ho1]; rfl
        have HT := hidK ht
        rw [hu] at hex hut
        rw [ho1] at hone hcat
        simp only [hone] at hs1
        rw [hq] at hcat hos ⊢
        rw [ht] at hcat
        have hne : (u.toList == zx.toList) = false := by rw [hut, hxt]; exact beq_eq_false_iff_ne.2 he
        have d2 : ¬ 9223372036854775807 < q.size + 1 := by omega
        have d3 : ¬ 9223372036854775807 < q.size + o1.size := by omega
        clear hu hq ht ho1 hc he hxt hut
        by_cases him : i + m ≤ n
        · have k1 : (i : Int) + (m : Int) ≤ (n : Int) := by omega
          have hsl := fun W => sliceF_two z i m (by omega) W
          simp only [hex] at hsl
          go_wp2_with fail
          all_goals (
            go_roundw
            case rel => exact ⟨i + 1, out ++ [c], by omega, by go_num, by rw [HT.out], HJ2.out, by first | rfl | trivial⟩
            case measure => simp [intOf]; omega)
        · have k1 : ¬ (i : Int) + (m : Int) ≤ (n : Int) := by omega
          clear hex hne
          go_wp2_with fail
          all_goals (
            go_roundw
            case rel => exact ⟨i + 1, out ++ [c], by omega, by go_num, by rw [HT.out], HJ2.out, by first | rfl | trivial⟩
            case measure => simp [intOf]; omega)
    · obtain rfl : i = n := by omega
      have HQ := hidK (HJ.out.done (by rw [HN.out]; exact Nat.le_refl _))
      go_wp2_with fail
      all_goals go_ret
      all_goals exact ⟨by rw [← HQ.out]; rfl, rfl⟩

end Go.Proofs.YtlfcjcaofhcfnaaGreatDoor

namespace Go.Proofs.YtlfcjcaofhcfnaaGreatDoor
open Go.RowKit
set_option linter.unusedVariables false
set_option maxRecDepth 100000

def tV (c : Int) (n : Int) (x y : List UInt8) : Value := .agg #[.int .u8 c, .int .i64 n, .string (str x), .string (str y)]
def turnV : Turn → Value
  | .cut n => tV 61 n [] []
  | .last n => tV 61 n [45] []
  | .behind n => tV 112 n [] []
  | .ahead n => tV 112 n [45] []
  | .base => tV 98 0 [] []
  | .folder => tV 100 0 [] []
  | .count => tV 110 0 [] []
  | .great => tV 117 0 [] []
  | .small => tV 119 0 [] []
  | .exch x y => tV 115 0 x y
def docTurn : Turn → List UInt8 → List UInt8
  | .great, l => l.map fun c => if smallB c then c - 32 else c
  | .small, l => l.map fun c => if greatB c then c + 32 else c
  | .exch x y, l => exchR x y l
  | t, l => t.of l
theorem nilS : (str [] : ByteArray) = ⟨#[]⟩ := rfl
theorem dashS : (str [45] : ByteArray) = ⟨#[45]⟩ := rfl
set_option maxHeartbeats 2000000 in
theorem turnedR_cut (n : Nat) (hn : n < 10000) (l : List UInt8) (hl : l.length ≤ 2147483647) (W : World) : Calls Tryz.prog 121 #[.agg #[.int .u8 61, .int .i64 (n : Int), .string ⟨#[]⟩, .string ⟨#[]⟩], .string (str l)] W fun e w' => e = .returned (.string (str (l.take n))) ∧ Below W.heap.size W w' := by
  have hT : ∀ k, (str l).extract 0 k = str (l.take k) := str_takeF l
  have hs : (str l).size = l.length := rfl
  obtain ⟨z, hz⟩ : ∃ z, str l = z := ⟨_, rfl⟩
  obtain ⟨y, hy⟩ : ∃ y, str (l.take n) = y := ⟨_, rfl⟩
  have hn1 : (str l).extract 0 n = y := by rw [hT]; exact hy
  have hn2 : l.length < n → (str l).extract 0 l.length = y := fun h => by
    rw [hT, ← hy, List.take_of_length_le (Nat.le_refl _), List.take_of_length_le (by omega)]
  rw [hz] at hs hn1 hn2
  rw [hz, hy]
  obtain ⟨m, hm⟩ : ∃ m, l.length = m := ⟨_, rfl⟩
  rw [hm] at hs hn2 hl
  clear hT hz hy hm
  by_cases h : m < n
  · have hx := hn2 h
    have h1 : ((m : Int)) < (n : Int) := by omega
    have hmin : min (n : Int) (m : Int) = (m : Int) := by omega
    clear hn1 hn2
    go_enter Tryz.func121, Tryz.ntmps121
    go_wp2
    all_goals go_ret
    all_goals exact ⟨rfl, by first | exact (Below.refl _ _).alloc (Nat.le_refl _) _ | exact ((Below.refl _ _).alloc (Nat.le_refl _) _).drew⟩
  · have h1 : ¬ ((m : Int)) < (n : Int) := by omega
    have h2 : (n : Int) ≤ (m : Int) := by omega
    have hmin : min (n : Int) (m : Int) = (n : Int) := by omega
    clear hn2
    go_enter Tryz.func121, Tryz.ntmps121
    go_wp2
    all_goals go_ret
    all_goals exact ⟨rfl, by first | exact (Below.refl _ _).alloc (Nat.le_refl _) _ | exact ((Below.refl _ _).alloc (Nat.le_refl _) _).drew⟩
set_option maxHeartbeats 2000000 in
theorem turnedR_last (n : Nat) (hn : n < 10000) (l : List UInt8) (hl : l.length ≤ 2147483647) (W : World) : Calls Tryz.prog 121 #[.agg #[.int .u8 61, .int .i64 (n : Int), .string ⟨#[45]⟩, .string ⟨#[]⟩], .string (str l)] W fun e w' => e = .returned (.string (str (l.drop (l.length - n)))) ∧ Below W.heap.size W w' := by
  have hT := str_dropF l (l.length - n)
  have hs : (str l).size = l.length := rfl
  obtain ⟨z, hz⟩ : ∃ z, str l = z := ⟨_, rfl⟩
  obtain ⟨y, hy⟩ : ∃ y, str (l.drop (l.length - n)) = y := ⟨_, rfl⟩
  have hx : (str l).extract (l.length - n) (str l).size = y := by rw [hT]; exact hy
  rw [hz] at hs hx
  rw [hz, hy]
  obtain ⟨m, hm⟩ : ∃ m, l.length = m := ⟨_, rfl⟩
  rw [hs] at hx
  rw [hm] at hs hx hl
  clear hT hz hy hm
  by_cases h : m < n
  · have h0 : m - n = 0 := by omega
    rw [h0] at hx
    have h1 : ((m : Int)) < (n : Int) := by omega
    have hmin : min (n : Int) (m : Int) = (m : Int) := by omega
    clear h0
    go_enter Tryz.func121, Tryz.ntmps121
    go_wp2
    all_goals go_ret
    all_goals exact ⟨rfl, by first | exact (Below.refl _ _).alloc (Nat.le_refl _) _ | exact ((Below.refl _ _).alloc (Nat.le_refl _) _).drew⟩
  · obtain ⟨d, rfl⟩ : ∃ d, m = n + d := ⟨m - n, by omega⟩
    have h0 : n + d - n = d := by omega
    rw [h0] at hx
    have hsub : ((n : Int) + (d : Int)) - (n : Int) = (d : Int) := by omega
    have h1 : ¬ ((n : Int) + (d : Int)) < (n : Int) := by omega
    have hmin : min (n : Int) ((n : Int) + (d : Int)) = (n : Int) := by omega
    clear h0 h
    go_enter Tryz.func121, Tryz.ntmps121
    go_wp2
    all_goals go_ret
    all_goals exact ⟨rfl, by first | exact (Below.refl _ _).alloc (Nat.le_refl _) _ | exact ((Below.refl _ _).alloc (Nat.le_refl _) _).drew⟩
set_option maxHeartbeats 2000000 in
theorem turnedR_pad (n : Nat) (hn : n < 10000) (b : Bool) (l : List UInt8) (hl : l.length ≤ 2147483647) (W : World) : Calls Tryz.prog 121 #[.agg #[.int .u8 112, .int .i64 (n : Int), .string (if b then ⟨#[45]⟩ else ⟨#[]⟩), .string ⟨#[]⟩], .string (str l)] W fun e w' => e = .returned (.string (str (if b then List.replicate (n - l.length) 32 ++ l else l ++ List.replicate (n - l.length) 32))) ∧ Below W.heap.size W w' := by
  have HBl := hidK (fun X => blanksR_any ((n : Int) - (l.length : Int)) (by omega) (by omega) X)
  rw [show ((n : Int) - (l.length : Int)).toNat = n - l.length by omega] at HBl
  have hcat1 := str_cat l (List.replicate (n - l.length) 32)
  have hcat2 := str_cat (List.replicate (n - l.length) 32) l
  have hys : (str (List.replicate (n - l.length) 32)).size = n - l.length := List.length_replicate
  have hs : (str l).size = l.length := rfl
  obtain ⟨z, hz⟩ : ∃ z, str l = z := ⟨_, rfl⟩
  obtain ⟨y, hy⟩ : ∃ y, str (List.replicate (n - l.length) 32) = y := ⟨_, rfl⟩
  rw [hz] at hs
  rw [hy] at HBl hys
  rw [hz, hy] at hcat1 hcat2
  rw [hz]
  cases b with
  | true =>
    simp only [if_true]
    obtain ⟨u, hu⟩ : ∃ u, str (List.replicate (n - l.length) 32 ++ l) = u := ⟨_, rfl⟩
    rw [hu] at hcat2 ⊢
    obtain ⟨m, hm⟩ : ∃ m, l.length = m := ⟨_, rfl⟩
    rw [hm] at hs hl hys HBl
    have d2 : ¬ 9223372036854775807 < y.size + z.size := by omega
    subst hcat2
    clear hz hy hu hm hys hcat1
    go_enter Tryz.func121, Tryz.ntmps121
    go_wp2_with (go_at_call 144; refine (HBl.out _).mono ?_; rintro x w1 ⟨rfl, rfl⟩)
    all_goals go_ret
    all_goals exact ⟨rfl, by first | exact (Below.refl _ _).alloc (Nat.le_refl _) _ | exact ((Below.refl _ _).alloc (Nat.le_refl _) _).drew⟩
  | false =>
    simp only [Bool.false_eq_true, if_false]
    obtain ⟨u, hu⟩ : ∃ u, str (l ++ List.replicate (n - l.length) 32) = u := ⟨_, rfl⟩
    rw [hu] at hcat1 ⊢
    obtain ⟨m, hm⟩ : ∃ m, l.length = m := ⟨_, rfl⟩
    rw [hm] at hs hl hys HBl
    have d2 : ¬ 9223372036854775807 < z.size + y.size := by omega
    subst hcat1
    clear hz hy hu hm hys hcat2
    go_enter Tryz.func121, Tryz.ntmps121
    go_wp2_with (go_at_call 144; refine (HBl.out _).mono ?_; rintro x w1 ⟨rfl, rfl⟩)
    all_goals go_ret
    all_goals exact ⟨rfl, by first | exact (Below.refl _ _).alloc (Nat.le_refl _) _ | exact ((Below.refl _ _).alloc (Nat.le_refl _) _).drew⟩
set_option maxHeartbeats 2000000 in
theorem turnedR_count (l : List UInt8) (hl : l.length ≤ 2147483647) (w : World) (h : NEnv w) : Calls Tryz.prog 121 #[.agg #[.int .u8 110, .int .i64 0, .string ⟨#[]⟩, .string ⟨#[]⟩], .string (str l)] w fun e w' => e = .returned (.string (str (Lib.itoa (l.length : Int)))) ∧ Below w.heap.size w w' := by
  have HI := hidK fun X (hX : Below w.heap.size w X) => itoa_any (h.below hX) l.length hl
  have hs : (str l).size = l.length := rfl
  obtain ⟨z, hz⟩ : ∃ z, str l = z := ⟨_, rfl⟩
  obtain ⟨y, hy⟩ : ∃ y, str (Lib.itoa (l.length : Int)) = y := ⟨_, rfl⟩
  obtain ⟨n, hn⟩ : ∃ n, l.length = n := ⟨_, rfl⟩
  rw [hz] at hs ⊢
  rw [hy] at HI ⊢
  rw [hn] at HI hs hl
  clear hz hy hn h
  go_enter Tryz.func121, Tryz.ntmps121
  go_wp2_with fail
  refine (HI.out _ ((Below.refl _ _).alloc (Nat.le_refl _) _)).mono ?_
  rintro x w1 ⟨rfl, hb1⟩
  have HB : Hid (Below w.heap.size w w1) := ((Below.refl _ w).alloc (Nat.le_refl _) _).trans (hb1.mono (by simp))
  clear hb1
  go_wp2_with fail
  all_goals go_ret
  all_goals exact ⟨rfl, HB.out⟩
set_option maxHeartbeats 2000000 in
theorem turnedR_exch (x y l : List UInt8) (hl : l.length ≤ 2147483647) (hx : x ≠ []) (hxl : x.length ≤ 2147483647) (hyl : y.length ≤ 1073741824) (w : World) : Calls Tryz.prog 121 #[.agg #[.int .u8 115, .int .i64 0, .string (str x), .string (str y)], .string (str l)] w fun e w' => e = .returned (.string (str (exchR x y l))) ∧ Below w.heap.size w w' := by
  have HI := hidK fun X => exchangedR_any l x y hl hx hxl hyl X
  obtain ⟨z, hz⟩ : ∃ z, str l = z := ⟨_, rfl⟩
  obtain ⟨zx, hzx⟩ : ∃ z, str x = z := ⟨_, rfl⟩
  obtain ⟨zy, hzy⟩ : ∃ z, str y = z := ⟨_, rfl⟩
  obtain ⟨r, hr⟩ : ∃ r, str (exchR x y l) = r := ⟨_, rfl⟩
  rw [hz, hzx, hzy, hr] at HI
  rw [hz, hzx, hzy, hr]
  clear hz hzx hzy hr hx hxl hyl hl
  go_enter Tryz.func121, Tryz.ntmps121
  go_wp2_with fail
  refine (HI.out _).mono ?_
  rintro x w1 ⟨rfl, rfl⟩
  go_wp2_with fail
  all_goals go_ret
  all_goals exact ⟨rfl, (Below.refl _ _).alloc (Nat.le_refl _) _⟩

end Go.Proofs.YtlfcjcaofhcfnaaGreatDoor
