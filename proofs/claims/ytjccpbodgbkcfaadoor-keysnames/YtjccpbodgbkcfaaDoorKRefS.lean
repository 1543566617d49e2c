/-
  Keys: bytes, by the document.
-/
import Derived.Test.YtjccpbodgbkcfaaDoorKRefL
import Derived.Test.YtjccpbodgbkcfaaDoorKRefO
namespace Go.Proofs.YtjccpbodgbkcfaaDoor
open Go.RowKit
set_option linter.unusedVariables false
set_option maxRecDepth 100000

/-- A special key's bytes, as the document reckons them. -/
def rseqF (c m : Int) (app : Bool) : List UInt8 :=
  if lettF c ≠ [] ∧ 0 < m then [27, 91, 49, 59] ++ digF (m + 1) ++ lettF c
  else if lettF c ≠ [] ∧ (app = true ∨ 16777227 ≤ c) then [27, 79] ++ lettF c
  else if lettF c ≠ [] then [27, 91] ++ lettF c
  else if 0 < m then [27, 91] ++ digF (numbF c) ++ [59] ++ digF (m + 1) ++ [126]
  else [27, 91] ++ digF (numbF c) ++ [126]
theorem rseq_eq : ∀ k : Fin 22, ∀ m : Fin 8, ∀ app : Bool, rseqF (16777217 + (k.val : Int)) (m.val : Int) app = seqF (spT.getD k.val ⟨[], [], [], []⟩) (m.val : Int) app := by decide
theorem numb_small (c : Int) : 0 ≤ numbF c ∧ numbF c < 100 := by
  unfold numbF
  split
  · rename_i p hp
    have hall : ∀ p ∈ numbT, 0 ≤ p.2 ∧ p.2 < 100 := by decide
    exact hall p (List.mem_of_find?_eq_some hp)
  · decide
theorem lett_small (c : Int) : (lettF c).length ≤ 1 := by
  unfold lettF
  split <;> simp
theorem dig_small (n : Int) : (digF n).length ≤ 2 := by
  unfold digF
  split <;> simp
set_option maxHeartbeats 8000000 in
theorem rseq_any (c m : Int) (app : Bool) (h0 : 0 ≤ m) (h7 : m ≤ 7) (w : World) : Calls Tryd.prog 45 #[.agg #[.int .i64 c, .int .i64 m], .bool app] w fun r w' => r = .returned (.string (str (rseqF c m app))) ∧ Below w.heap.size w w' := by
  obtain ⟨W, hW⟩ : ∃ W, w.alloc (.cells #[.int .i64 c, .int .i64 m] 30) = W := ⟨_, rfl⟩
  obtain ⟨K, hK⟩ : ∃ K, w.heap.size = K := ⟨_, rfl⟩
  have hk : Kb w W K c m := by rw [← hW, ← hK]; exact Kb.new w _ _
  have H := hidK hk
  have HK := hidK hK
  have k0 := hk.c0
  have k1 := hk.c1
  clear hk
  have HLe := hidK (rletter_any c)
  have HNu := hidK (rnumber_any c)
  obtain ⟨nn, hnn⟩ : ∃ nn, numbF c = nn := ⟨_, rfl⟩
  have hns := numb_small c
  rw [hnn] at HNu hns
  have HP1 := hidK (rput_any (m + 1) (by omega) (by omega))
  have HP2 := hidK (rput_any nn hns.1 hns.2)
  obtain ⟨L, hL⟩ : ∃ L, str (lettF c) = L := ⟨_, rfl⟩
  obtain ⟨M, hM⟩ : ∃ M, str (digF (m + 1)) = M := ⟨_, rfl⟩
  obtain ⟨N, hN⟩ : ∃ N, str (digF nn) = N := ⟨_, rfl⟩
  have zL : L.size ≤ 2 := by rw [← hL, str_size]; have := lett_small c; omega
  have zM : M.size ≤ 2 := by rw [← hM, str_size]; exact dig_small _
  have zN : N.size ≤ 2 := by rw [← hN, str_size]; exact dig_small _
  have tL : L.toList = lettF c := by rw [← hL, str_toList]
  rw [hL] at HLe
  rw [hM] at HP1
  rw [hN] at HP2
  obtain ⟨R, hR⟩ : ∃ R, str (rseqF c m app) = R := ⟨_, rfl⟩
  rw [hR]
  unfold rseqF at hR
  rw [hnn] at hR
  have hm1 : IntKind.i64.wrap (m + 1) = m + 1 := by
    have := IntKind.wrap_i64 (m + 1)
    omega
  have HCat : Hid (∀ a b : List UInt8, str (a ++ b) = str a ++ str b) := fun a b => (str_catK a b).symm
  by_cases hl : lettF c = []
  · have e1 : L = ⟨#[]⟩ := by rw [← hL, hl]; rfl
    subst e1
    rw [if_neg (by simp [hl]), if_neg (by simp [hl]), if_neg (by simp [hl])] at hR
    by_cases hm : 0 < m
    · rw [if_pos hm] at hR
      have HR : Hid ((⟨#[27, 91]⟩ : ByteArray) ++ N ++ ⟨#[59]⟩ ++ M ++ ⟨#[126]⟩ = R) := by
        show _ = _
        rw [← hR, HCat.out, HCat.out, HCat.out, HCat.out, hN, hM]
        rfl
      clear hR hL hM hN tL hl hnn hns HCat
      go_enter Tryd.func45, Tryd.ntmps45
      go_wp2_with fail
      refine (HLe.out _).mono ?_
      rintro e w1 ⟨rfl, hb1⟩
      have H1 := hidK (H.out.more hb1)
      have a0 := H1.out.c0
      have a1 := H1.out.c1
      clear hb1 k0 k1
      go_wp2_with fail
      refine (HP1.out _).mono ?_
      rintro e w2 ⟨rfl, hb2⟩
      have H2 := hidK (H1.out.more hb2)
      have b0 := H2.out.c0
      have b1 := H2.out.c1
      clear hb2 a0 a1
      go_wp2_with fail
      refine (HNu.out _).mono ?_
      rintro e w3 ⟨rfl, hb3⟩
      have H3 := hidK (H2.out.more hb3)
      clear hb3 b0 b1
      go_wp2_with fail
      refine (HP2.out _).mono ?_
      rintro e w4 ⟨rfl, hb4⟩
      have H4 := hidK (H3.out.more hb4)
      have d0 := H4.out.c0
      have d1 := H4.out.c1
      clear hb4
      go_wp2_with fail
      go_ret
      exact ⟨by rw [← HR.out]; first | rfl | simp, by first | exact H4.out.below | (rw [← HK.out]; exact H4.out.below)⟩

    · have hm0 : m = 0 := by omega
      subst hm0
      rw [if_neg (by decide)] at hR
      have HR : Hid ((⟨#[27, 91]⟩ : ByteArray) ++ N ++ ⟨#[126]⟩ = R) := by
        show _ = _
        rw [← hR, HCat.out, HCat.out, hN]
        rfl
      clear hR hL hM hN tL hl hnn hns HCat
      go_enter Tryd.func45, Tryd.ntmps45
      go_wp2_with fail
      refine (HLe.out _).mono ?_
      rintro e w1 ⟨rfl, hb1⟩
      have H1 := hidK (H.out.more hb1)
      have a0 := H1.out.c0
      have a1 := H1.out.c1
      clear hb1 k0 k1
      go_wp2_with fail
      refine (HP1.out _).mono ?_
      rintro e w2 ⟨rfl, hb2⟩
      have H2 := hidK (H1.out.more hb2)
      have b0 := H2.out.c0
      have b1 := H2.out.c1
      clear hb2 a0 a1
      go_wp2_with fail
      refine (HNu.out _).mono ?_
      rintro e w3 ⟨rfl, hb3⟩
      have H3 := hidK (H2.out.more hb3)
      clear hb3 b0 b1
      go_wp2_with fail
      refine (HP2.out _).mono ?_
      rintro e w4 ⟨rfl, hb4⟩
      have H4 := hidK (H3.out.more hb4)
      have d0 := H4.out.c0
      have d1 := H4.out.c1
      clear hb4
      go_wp2_with fail
      go_ret
      exact ⟨by rw [← HR.out]; first | rfl | simp, by first | exact H4.out.below | (rw [← HK.out]; exact H4.out.below)⟩

  · have e1 : ¬ L.toList = [] := by rw [tL]; exact hl
    have e2 : L.toList.isEmpty = false := by rw [tL]; simpa using hl
    by_cases hm : 0 < m
    · rw [if_pos ⟨hl, hm⟩] at hR
      have HR : Hid ((⟨#[27, 91, 49, 59]⟩ : ByteArray) ++ M ++ L = R) := by
        show _ = _
        rw [← hR, HCat.out, HCat.out, hM, hL]
        rfl
      clear hR hL hM hN tL hl hnn hns HCat
      go_enter Tryd.func45, Tryd.ntmps45
      go_wp2_with fail
      refine (HLe.out _).mono ?_
      rintro e w1 ⟨rfl, hb1⟩
      have H1 := hidK (H.out.more hb1)
      have a0 := H1.out.c0
      have a1 := H1.out.c1
      clear hb1 k0 k1
      go_wp2_with fail
      refine (HP1.out _).mono ?_
      rintro e w2 ⟨rfl, hb2⟩
      have H2 := hidK (H1.out.more hb2)
      have b0 := H2.out.c0
      have b1 := H2.out.c1
      clear hb2 a0 a1
      go_wp2_with fail
      refine (HNu.out _).mono ?_
      rintro e w3 ⟨rfl, hb3⟩
      have H3 := hidK (H2.out.more hb3)
      clear hb3 b0 b1
      go_wp2_with fail
      refine (HP2.out _).mono ?_
      rintro e w4 ⟨rfl, hb4⟩
      have H4 := hidK (H3.out.more hb4)
      have d0 := H4.out.c0
      have d1 := H4.out.c1
      clear hb4
      go_wp2_with fail
      go_ret
      exact ⟨by rw [← HR.out]; first | rfl | simp, by first | exact H4.out.below | (rw [← HK.out]; exact H4.out.below)⟩

    · have hm0 : m = 0 := by omega
      subst hm0
      rw [if_neg (by simp)] at hR
      cases app with
      | true =>
        rw [if_pos ⟨hl, .inl rfl⟩] at hR
        have HR : Hid ((⟨#[27, 79]⟩ : ByteArray) ++ L = R) := by
          show _ = _
          rw [← hR, HCat.out, hL]
          rfl
        clear hR hL hM hN tL hl hnn hns HCat
        go_enter Tryd.func45, Tryd.ntmps45
        go_wp2_with fail
        refine (HLe.out _).mono ?_
        rintro e w1 ⟨rfl, hb1⟩
        have H1 := hidK (H.out.more hb1)
        have a0 := H1.out.c0
        have a1 := H1.out.c1
        clear hb1 k0 k1
        go_wp2_with fail
        refine (HP1.out _).mono ?_
        rintro e w2 ⟨rfl, hb2⟩
        have H2 := hidK (H1.out.more hb2)
        have b0 := H2.out.c0
        have b1 := H2.out.c1
        clear hb2 a0 a1
        go_wp2_with fail
        refine (HNu.out _).mono ?_
        rintro e w3 ⟨rfl, hb3⟩
        have H3 := hidK (H2.out.more hb3)
        clear hb3 b0 b1
        go_wp2_with fail
        refine (HP2.out _).mono ?_
        rintro e w4 ⟨rfl, hb4⟩
        have H4 := hidK (H3.out.more hb4)
        have d0 := H4.out.c0
        have d1 := H4.out.c1
        clear hb4
        go_wp2_with fail
        go_ret
        exact ⟨by rw [← HR.out]; first | rfl | simp, by first | exact H4.out.below | (rw [← HK.out]; exact H4.out.below)⟩

      | false =>
        by_cases hc : 16777227 ≤ c
        · rw [if_pos ⟨hl, .inr hc⟩] at hR
          have HR : Hid ((⟨#[27, 79]⟩ : ByteArray) ++ L = R) := by
            show _ = _
            rw [← hR, HCat.out, hL]
            rfl
          clear hR hL hM hN tL hl hnn hns HCat
          go_enter Tryd.func45, Tryd.ntmps45
          go_wp2_with fail
          refine (HLe.out _).mono ?_
          rintro e w1 ⟨rfl, hb1⟩
          have H1 := hidK (H.out.more hb1)
          have a0 := H1.out.c0
          have a1 := H1.out.c1
          clear hb1 k0 k1
          go_wp2_with fail
          refine (HP1.out _).mono ?_
          rintro e w2 ⟨rfl, hb2⟩
          have H2 := hidK (H1.out.more hb2)
          have b0 := H2.out.c0
          have b1 := H2.out.c1
          clear hb2 a0 a1
          go_wp2_with fail
          refine (HNu.out _).mono ?_
          rintro e w3 ⟨rfl, hb3⟩
          have H3 := hidK (H2.out.more hb3)
          clear hb3 b0 b1
          go_wp2_with fail
          refine (HP2.out _).mono ?_
          rintro e w4 ⟨rfl, hb4⟩
          have H4 := hidK (H3.out.more hb4)
          have d0 := H4.out.c0
          have d1 := H4.out.c1
          clear hb4
          go_wp2_with fail
          go_ret
          exact ⟨by rw [← HR.out]; first | rfl | simp, by first | exact H4.out.below | (rw [← HK.out]; exact H4.out.below)⟩

        · rw [if_neg (by simp [hc]), if_pos hl] at hR
          have HR : Hid ((⟨#[27, 91]⟩ : ByteArray) ++ L = R) := by
            show _ = _
            rw [← hR, HCat.out, hL]
            rfl
          clear hR hL hM hN tL hl hnn hns HCat
          go_enter Tryd.func45, Tryd.ntmps45
          go_wp2_with fail
          refine (HLe.out _).mono ?_
          rintro e w1 ⟨rfl, hb1⟩
          have H1 := hidK (H.out.more hb1)
          have a0 := H1.out.c0
          have a1 := H1.out.c1
          clear hb1 k0 k1
          go_wp2_with fail
          refine (HP1.out _).mono ?_
          rintro e w2 ⟨rfl, hb2⟩
          have H2 := hidK (H1.out.more hb2)
          have b0 := H2.out.c0
          have b1 := H2.out.c1
          clear hb2 a0 a1
          go_wp2_with fail
          refine (HNu.out _).mono ?_
          rintro e w3 ⟨rfl, hb3⟩
          have H3 := hidK (H2.out.more hb3)
          clear hb3 b0 b1
          go_wp2_with fail
          refine (HP2.out _).mono ?_
          rintro e w4 ⟨rfl, hb4⟩
          have H4 := hidK (H3.out.more hb4)
          have d0 := H4.out.c0
          have d1 := H4.out.c1
          clear hb4
          go_wp2_with fail
          go_ret
          exact ⟨by rw [← HR.out]; first | rfl | simp, by first | exact H4.out.below | (rw [← HK.out]; exact H4.out.below)⟩

end Go.Proofs.YtjccpbodgbkcfaaDoor
