/-
  Formats: a text cut at its commas; identifiers; texts without a number sign.
-/
import Derived.Test.YtgoofifbifdgoaaGreatDoorFRow
import Derived.WalkKit
import Derived.Deep.RegionLaw
namespace Go.Proofs.YtgoofifbifdgoaaGreatDoor
open Go.RowKit
set_option linter.unusedVariables false
set_option maxRecDepth 20000

/-- How far the cutting has come: done, the rest from k on, the part since b. -/
structure CutS (l : List UInt8) (n k b : Nat) (o : Int) (ps : List (List UInt8)) (R : List (List UInt8)) : Prop where
  all : ∃ f, n - k ≤ f ∧ ps ++ cutG f (l.drop k) ((l.drop b).take (k - b)) o = R
  le : b ≤ k
theorem CutS.comma {l : List UInt8} {n k b : Nat} {ps R : List (List UInt8)} (h : CutS l n k b 0 ps R) (hn : l.length = n) (hk : k < n) {c : UInt8} (hc : l[k]? = some c) (h44 : c.toNat = 44) : CutS l n (k + 1) (k + 1) 0 (ps ++ [(l.drop b).take (k - b)]) R := by
  obtain ⟨f, hf, he⟩ := h.all
  obtain ⟨f', rfl⟩ : ∃ f', f = f' + 1 := ⟨f - 1, by omega⟩
  refine ⟨⟨f', by omega, ?_⟩, Nat.le_refl _⟩
  obtain ⟨h1, h2⟩ := List.getElem?_eq_some_iff.1 hc
  rw [List.drop_eq_getElem_cons h1, h2] at he
  unfold cutG at he
  simp only [h44, and_self, if_true] at he
  rw [← he]
  simp
theorem CutS.pass {l : List UInt8} {n k b : Nat} {o : Int} {ps R : List (List UInt8)} (h : CutS l n k b o ps R) (hn : l.length = n) (hk : k < n) {c : UInt8} (hc : l[k]? = some c) (h44 : ¬ (c.toNat = 44 ∧ o = 0)) : CutS l n (k + (passF (l.drop k)).1) b (o + (passF (l.drop k)).2) ps R := by
  obtain ⟨f, hf, he⟩ := h.all
  obtain ⟨f', rfl⟩ : ∃ f', f = f' + 1 := ⟨f - 1, by omega⟩
  have hp := pass_pos (l.drop k)
  have hle := h.le
  refine ⟨⟨f', by omega, ?_⟩, by omega⟩
  obtain ⟨h1, h2⟩ := List.getElem?_eq_some_iff.1 hc
  have hd : l.drop k = c :: l.drop (k + 1) := by rw [List.drop_eq_getElem_cons h1, h2]
  obtain ⟨⟨a, d⟩, hab⟩ : ∃ p, passF (l.drop k) = p := ⟨_, rfl⟩
  rw [← he]
  congr 1
  conv => rhs; unfold cutG
  rw [hd]
  simp only []
  rw [if_neg h44, ← hd, hab]
  simp only []
  rw [List.drop_drop]
  congr 1
  rw [show k + a - b = (k - b) + a by omega, List.take_add, List.drop_drop, show b + (k - b) = k by omega]
theorem CutS.done {l : List UInt8} {n k b : Nat} {o : Int} {ps R : List (List UInt8)} (h : CutS l n k b o ps R) (hn : l.length = n) (hk : n ≤ k) : ps ++ [l.drop b] = R := by
  obtain ⟨f, hf, he⟩ := h.all
  have hle := h.le
  have hd : l.drop k = [] := List.drop_eq_nil_of_le (by omega)
  have ht : (l.drop b).take (k - b) = l.drop b := List.take_of_length_le (by rw [List.length_drop]; omega)
  rw [hd, ht] at he
  rw [← he]
  cases f <;> rfl
theorem CutS.few {l : List UInt8} {n k b : Nat} {o : Int} {ps R : List (List UInt8)} (h : CutS l n k b o ps R) : ps.length ≤ R.length := by
  obtain ⟨f, hf, he⟩ := h.all
  rw [← he, List.length_append]
  omega
theorem cut_few : ∀ (f : Nat) (l cur : List UInt8) (o : Int), (cutG f l cur o).length ≤ f + 1
  | 0, _, _, _ => by simp [cutG]
  | f + 1, [], _, _ => by simp [cutG]
  | f + 1, c :: r, cur, o => by
    unfold cutG
    simp only []
    split
    · have := cut_few f r [] 0
      simp only [List.length_cons]
      omega
    · have := cut_few f ((c :: r).drop (passF (c :: r)).1) (cur ++ (c :: r).take (passF (c :: r)).1) (o + (passF (c :: r)).2)
      omega

set_option maxHeartbeats 4000000 in
theorem cut_any (l : List UInt8) (hl : l.length ≤ 2147483647) (w : World) : Calls Tryz.prog 128 #[.string (str l)] w fun e w' => ∃ v, e = .returned v ∧ Texts w w' v (cutF l) := by
  have HP : Hid (∀ l W, l ≠ [] → Calls Tryz.prog 131 #[.string (str l)] W fun e w' => e = .returned (.tuple #[.int .i64 ((passF l).1 : Int), .int .i64 (passF l).2]) ∧ W = w') := fun l W h => pass_any l h W
  have HD : Hid (∀ k, (str l).extract k (str l).size = str (l.drop k)) := str_dropF l
  have HE : Hid (∀ i j, (str l).extract i j = str ((l.drop i).take (j - i))) := str_midF l
  have HG : Hid (∀ k c (h : k < (str l).size), l[k]? = some c → (str l)[k] = c) := fun k c h hc => str_getF l k c hc h
  obtain ⟨z, hz⟩ : ∃ z, str l = z := ⟨_, rfl⟩
  have hs : z.size = l.length := by rw [← hz]; rfl
  obtain ⟨R, hR⟩ : ∃ R, cutF l = R := ⟨_, rfl⟩
  have HR : Hid (CutS l l.length 0 0 0 [] R) := ⟨⟨l.length, by omega, hR⟩, Nat.le_refl _⟩
  have HRl : Hid (R.length ≤ l.length + 1) := by rw [← hR]; exact cut_few _ _ _ _
  rw [hz, hR]
  rw [hz] at HD HE HG
  obtain ⟨n, hn⟩ : ∃ n, l.length = n := ⟨_, rfl⟩
  rw [hn] at hs hl HR HRl
  have HN : Hid (l.length = n) := hn
  clear hz hR hn
  go_enter Tryz.func128, Tryz.ntmps128
  go_wp2_with fail
  go_loopw [3, 4, 5, 6] (fun s3 s4 s5 s6 wx => ∃ (k b : Nat) (o : Int) (ps : List (List UInt8)), k ≤ n ∧ b ≤ n ∧ s6 = .int .i64 (k : Int) ∧ s4 = .int .i64 (b : Int) ∧ s5 = .int .i64 o ∧ -(k : Int) ≤ o ∧ o ≤ (k : Int) ∧ Hid (CutS l n k b o ps R) ∧ Hid (Texts w wx s3 ps)) (fun _ _ _ v _ => n - (intOf v).toNat)
  case atStart => exact ⟨0, 0, 0, [], Nat.zero_le _, Nat.zero_le _, rfl, rfl, rfl, by omega, by omega, HR.out, Mine.nil (Below.refl _ _)⟩
  case round =>
    obtain ⟨k, b, o, ps, hk, hb, rfl, rfl, rfl, ho1, ho2, HS, HM⟩ := hrel
    obtain ⟨sp, hsp⟩ : ∃ sp, u3 = sp := ⟨_, rfl⟩
    rw [hsp] at HM ⊢
    clear hsp
    have hbk := HS.out.le
    by_cases hkn : k < n
    · obtain ⟨c, hc⟩ : ∃ c, l[k]? = some c := ⟨_, List.getElem?_eq_getElem (by rw [HN.out]; exact hkn)⟩
      have hkz : k < z.size := by omega
      have hgc := HG.out k c hkz hc
      have hne : l.drop k ≠ [] := fun e => by
        have := congrArg List.length e
        rw [List.length_drop, HN.out] at this
        simp at this
        omega
      have hp := pass_le hne
      have hp1 := pass_pos (l.drop k)
      obtain ⟨hp2, hp3⟩ := pass_small (l.drop k)
      rw [List.length_drop, HN.out] at hp
      have HPk := hidK (fun W => HP.out (l.drop k) W hne)
      have HDk := hidK (HD.out k)
      have HEk := hidK (HE.out b k)
      have HCc := hidK hc
      rw [hs] at HDk
      have hfew := HS.out.few
      have hfe := HRl.out
      by_cases h44 : c.toNat = 44 ∧ o = 0
      · obtain ⟨h44, rfl⟩ := h44
        have HS2 := hidK (HS.out.comma HN.out hkn hc h44)
        have hpc : passF (l.drop k) = (1, 0) := by
          obtain ⟨h1, h2⟩ := List.getElem?_eq_some_iff.1 hc
          rw [List.drop_eq_getElem_cons h1, h2]
          cases l.drop (k + 1) with
          | nil => simp [passF, h44]
          | cons d r => simp [passF, h44]
        rw [hpc] at HPk
        obtain ⟨y, hy⟩ : ∃ y, str (l.drop k) = y := ⟨_, rfl⟩
        obtain ⟨y2, hy2⟩ : ∃ y2, str ((l.drop b).take (k - b)) = y2 := ⟨_, rfl⟩
        rw [hy] at HPk HDk
        rw [hy2] at HEk
        have HY2 := hidK hy2
        have hdx := HDk.out
        have hex := HEk.out
        clear hc hne hpc hy hy2 hp hp1 hp2 hp3 HDk HEk
        go_wp2_with (refine wpList_append_row (wr.alloc (.cells #[.string y2] 9)) rfl _ _ 130 130 rfl underStrs infoStr rfl (v := sp) (by simp [Act.eval]) (u := .slice (some ⟨wr.heap.size, 0, none⟩) 1 1) (by simp [Act.eval]) (HM.out.row.below ((Below.refl _ _).alloc (Nat.le_refl _) _)) (Src.block underStrs _ _ [.string y2] _ 1 (heap_alloc_new wr _) rfl rfl) ?x1 ?x2 ?x3)
        case x1 => omega
        case x2 => unfold maxLen; omega
        case x3 =>
          intro v7 w7 hr7 hg7
          have HM7 := hidK ((HM.out.grown ((Below.refl _ _).alloc (Nat.le_refl _) _) hr7.out hg7.out).cast (n' := (ps ++ [(l.drop b).take (k - b)]).length) (xs' := strsV (ps ++ [(l.drop b).take (k - b)])) (by simp) (by rw [strs_snoc, HY2.out]))
          clear hr7 hg7 HM HY2
          go_wp2_with fail
          refine (HPk.out _).mono ?_
          rintro x w8 ⟨rfl, rfl⟩
          go_wp2_with fail
          go_roundw
          case rel => exact ⟨k + 1, k + 1, 0, _, by omega, by omega, by go_num, by go_num, rfl, by omega, by omega, HS2.out, HM7.out⟩
          case measure => simp [intOf]; omega
      · have HS2 := hidK (HS.out.pass HN.out hkn hc h44)
        obtain ⟨⟨a, d⟩, hab⟩ : ∃ p, passF (l.drop k) = p := ⟨_, rfl⟩
        rw [hab] at HPk HS2 hp hp1 hp2 hp3
        simp only at hp hp1 hp2 hp3 HPk HS2
        obtain ⟨y, hy⟩ : ∃ y, str (l.drop k) = y := ⟨_, rfl⟩
        rw [hy] at HPk HDk
        have hdx := HDk.out
        clear hc hne hy hab HDk HEk
        by_cases h4 : c.toNat = 44
        · have h0 : ¬ o = 0 := fun e => h44 ⟨h4, e⟩
          clear h44
          go_wp2_with fail
          refine (HPk.out _).mono ?_
          rintro x w8 ⟨rfl, rfl⟩
          go_wp2_with fail
          go_roundw
          case rel => exact ⟨k + a, b, o + d, ps, by omega, by omega, by go_num, rfl, by go_num, by omega, by omega, HS2.out, HM.out⟩
          case measure => simp [intOf]; omega
        · clear h44
          go_wp2_with fail
          refine (HPk.out _).mono ?_
          rintro x w8 ⟨rfl, rfl⟩
          go_wp2_with fail
          go_roundw
          case rel => exact ⟨k + a, b, o + d, ps, by omega, by omega, by go_num, rfl, by go_num, by omega, by omega, HS2.out, HM.out⟩
          case measure => simp [intOf]; omega
    · obtain rfl : k = n := by omega
      have HQ := hidK (HS.out.done HN.out (Nat.le_refl _))
      have hfew := HS.out.few
      have hfe := HRl.out
      have HDk := hidK (HD.out b)
      rw [hs] at HDk
      obtain ⟨y, hy⟩ : ∃ y, str (l.drop b) = y := ⟨_, rfl⟩
      rw [hy] at HDk
      have HY := hidK hy
      have hdx := HDk.out
      clear hy HDk
      go_wp2_with (refine wpList_append_row (wr.alloc (.cells #[.string y] 9)) rfl _ _ 130 130 rfl underStrs infoStr rfl (v := sp) (by simp [Act.eval]) (u := .slice (some ⟨wr.heap.size, 0, none⟩) 1 1) (by simp [Act.eval]) (HM.out.row.below ((Below.refl _ _).alloc (Nat.le_refl _) _)) (Src.block underStrs _ _ [.string y] _ 1 (heap_alloc_new wr _) rfl rfl) ?x1 ?x2 ?x3)
      case x1 => omega
      case x2 => unfold maxLen; omega
      case x3 =>
        intro v7 w7 hr7 hg7
        have HM7 := hidK ((HM.out.grown ((Below.refl _ _).alloc (Nat.le_refl _) _) hr7.out hg7.out).cast (n' := (ps ++ [l.drop b]).length) (xs' := strsV (ps ++ [l.drop b])) (by simp) (by rw [strs_snoc, HY.out]))
        clear hr7 hg7 HM HY
        go_wp2_with fail
        all_goals go_ret
        all_goals exact ⟨_, rfl, by rw [← HQ.out]; exact HM7.out⟩

end Go.Proofs.YtgoofifbifdgoaaGreatDoor
