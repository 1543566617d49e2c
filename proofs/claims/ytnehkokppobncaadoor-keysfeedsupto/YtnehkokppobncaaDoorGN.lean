/-
  Keys: a key's name, by the document.
  Keys: a special key's name, by the document.
  Keys: bytes, by the document.
  Keys: Bytes, by the document.
-/
import Derived.Test.YtnehkokppobncaaDoorKRefV
import Derived.Test.YtnehkokppobncaaDoorGE
import Derived.Test.YtnehkokppobncaaDoorKRefU
import Derived.Test.YtnehkokppobncaaDoorKRefL
import Derived.RegionTactic
import Derived.BigRegion
namespace Go.Proofs.YtnehkokppobncaaDoor
open Go.RowKit
set_option linter.unusedVariables false
set_option maxRecDepth 100000

def wordsL : List (List UInt8) := [[85, 112], [68, 111, 119, 110], [82, 105, 103, 104, 116], [76, 101, 102, 116], [72, 111, 109, 101], [69, 110, 100], [73, 110, 115, 101, 114, 116], [68, 101, 108, 101, 116, 101], [80, 97, 103, 101, 85, 112], [80, 97, 103, 101, 68, 111, 119, 110], [70, 49], [70, 50], [70, 51], [70, 52], [70, 53], [70, 54], [70, 55], [70, 56], [70, 57], [70, 49, 48], [70, 49, 49], [70, 49, 50], [66, 84, 97, 98]]
theorem words_at : ∀ k : Fin 23, ∃ x, wordsL[k.val]? = some x ∧ x.length ≤ 9 ∧ (#[.string ⟨#[85, 112]⟩, .string ⟨#[68, 111, 119, 110]⟩, .string ⟨#[82, 105, 103, 104, 116]⟩, .string ⟨#[76, 101, 102, 116]⟩, .string ⟨#[72, 111, 109, 101]⟩, .string ⟨#[69, 110, 100]⟩, .string ⟨#[73, 110, 115, 101, 114, 116]⟩, .string ⟨#[68, 101, 108, 101, 116, 101]⟩, .string ⟨#[80, 97, 103, 101, 85, 112]⟩, .string ⟨#[80, 97, 103, 101, 68, 111, 119, 110]⟩, .string ⟨#[70, 49]⟩, .string ⟨#[70, 50]⟩, .string ⟨#[70, 51]⟩, .string ⟨#[70, 52]⟩, .string ⟨#[70, 53]⟩, .string ⟨#[70, 54]⟩, .string ⟨#[70, 55]⟩, .string ⟨#[70, 56]⟩, .string ⟨#[70, 57]⟩, .string ⟨#[70, 49, 48]⟩, .string ⟨#[70, 49, 49]⟩, .string ⟨#[70, 49, 50]⟩, .string ⟨#[66, 84, 97, 98]⟩] : Array Value)[k.val]? = some (.string (str x)) := by
  intro k
  match k with
  | ⟨0, _⟩ => exact ⟨_, rfl, by decide, rfl⟩
  | ⟨1, _⟩ => exact ⟨_, rfl, by decide, rfl⟩
  | ⟨2, _⟩ => exact ⟨_, rfl, by decide, rfl⟩
  | ⟨3, _⟩ => exact ⟨_, rfl, by decide, rfl⟩
  | ⟨4, _⟩ => exact ⟨_, rfl, by decide, rfl⟩
  | ⟨5, _⟩ => exact ⟨_, rfl, by decide, rfl⟩
  | ⟨6, _⟩ => exact ⟨_, rfl, by decide, rfl⟩
  | ⟨7, _⟩ => exact ⟨_, rfl, by decide, rfl⟩
  | ⟨8, _⟩ => exact ⟨_, rfl, by decide, rfl⟩
  | ⟨9, _⟩ => exact ⟨_, rfl, by decide, rfl⟩
  | ⟨10, _⟩ => exact ⟨_, rfl, by decide, rfl⟩
  | ⟨11, _⟩ => exact ⟨_, rfl, by decide, rfl⟩
  | ⟨12, _⟩ => exact ⟨_, rfl, by decide, rfl⟩
  | ⟨13, _⟩ => exact ⟨_, rfl, by decide, rfl⟩
  | ⟨14, _⟩ => exact ⟨_, rfl, by decide, rfl⟩
  | ⟨15, _⟩ => exact ⟨_, rfl, by decide, rfl⟩
  | ⟨16, _⟩ => exact ⟨_, rfl, by decide, rfl⟩
  | ⟨17, _⟩ => exact ⟨_, rfl, by decide, rfl⟩
  | ⟨18, _⟩ => exact ⟨_, rfl, by decide, rfl⟩
  | ⟨19, _⟩ => exact ⟨_, rfl, by decide, rfl⟩
  | ⟨20, _⟩ => exact ⟨_, rfl, by decide, rfl⟩
  | ⟨21, _⟩ => exact ⟨_, rfl, by decide, rfl⟩
  | ⟨22, _⟩ => exact ⟨_, rfl, by decide, rfl⟩
  | ⟨k + 23, h⟩ => exact absurd h (by omega)
theorem words_bare {c : Int} {k : Nat} {x : List UInt8} (hc : c = 16777217 + (k : Int)) (hx : wordsL[k]? = some x) : bareF c = x := by
  have hk : k < 23 := (List.getElem?_eq_some_iff.1 hx).1
  subst hc
  rcases (by omega : k = 0 ∨ k = 1 ∨ k = 2 ∨ k = 3 ∨ k = 4 ∨ k = 5 ∨ k = 6 ∨ k = 7 ∨ k = 8 ∨ k = 9 ∨ k = 10 ∨ k = 11 ∨ k = 12 ∨ k = 13 ∨ k = 14 ∨ k = 15 ∨ k = 16 ∨ k = 17 ∨ k = 18 ∨ k = 19 ∨ k = 20 ∨ k = 21 ∨ k = 22) with h | h | h | h | h | h | h | h | h | h | h | h | h | h | h | h | h | h | h | h | h | h | h <;> subst h <;> (cases hx; rfl)
end Go.Proofs.YtnehkokppobncaaDoor

namespace Go.Proofs.YtnehkokppobncaaDoor
open Go.RowKit
set_option linter.unusedVariables false
set_option maxRecDepth 100000

end Go.Proofs.YtnehkokppobncaaDoor

namespace Go.Proofs.YtnehkokppobncaaDoor
open Go.RowKit
set_option linter.unusedVariables false
set_option maxRecDepth 100000

/-- A special key's bytes, as the document reckons them. -/
def rseqF (c m : Int) (app : Bool) : List UInt8 :=
  if lettF c ≠ [] ∧ 0 < m then [27, 91, 49, 59] ++ digF (m + 1) ++ lettF c
  else if lettF c ≠ [] ∧ (app = true ∨ 16777227 ≤ c) then [27, 79] ++ lettF c
  else if lettF c ≠ [] then [27, 91] ++ lettF c
  else if 0 < m then [27, 91] ++ digF (numbF c) ++ [59] ++ digF (m + 1) ++ [126]
  else [27, 91] ++ digF (numbF c) ++ [126]
theorem rseq_eq : ∀ k : Fin 22, ∀ m : Fin 8, ∀ app : Bool, rseqF (16777217 + (k.val : Int)) (m.val : Int) app = seqF (spT.getD k.val ⟨[], [], [], []⟩) (m.val : Int) app := by decide
theorem numb_small (c : Int) : 0 ≤ numbF c ∧ numbF c < 100 := by
  unfold numbF
  split
  · rename_i p hp
    have hall : ∀ p ∈ numbT, 0 ≤ p.2 ∧ p.2 < 100 := by decide
    exact hall p (List.mem_of_find?_eq_some hp)
  · decide
theorem lett_small (c : Int) : (lettF c).length ≤ 1 := by
  unfold lettF
  split <;> simp
theorem dig_small (n : Int) : (digF n).length ≤ 2 := by
  unfold digF
  split <;> simp
set_option maxHeartbeats 8000000 in
theorem rseq_any (c m : Int) (app : Bool) (h0 : 0 ≤ m) (h7 : m ≤ 7) (w : World) : Calls Tryd.prog 56 #[.agg #[.int .i64 c, .int .i64 m], .bool app] w fun r w' => r = .returned (.string (str (rseqF c m app))) ∧ Below w.heap.size w w' := by
  obtain ⟨W, hW⟩ : ∃ W, w.alloc (.cells #[.int .i64 c, .int .i64 m] 36) = W := ⟨_, rfl⟩
  obtain ⟨K, hK⟩ : ∃ K, w.heap.size = K := ⟨_, rfl⟩
  have hk : Kb w W K c m := by rw [← hW, ← hK]; exact Kb.new w _ _
  have H := hidK hk
  have HK := hidK hK
  have k0 := hk.c0
  have k1 := hk.c1
  clear hk
  have HLe := hidK (rletter_any c)
  have HNu := hidK (rnumber_any c)
  obtain ⟨nn, hnn⟩ : ∃ nn, numbF c = nn := ⟨_, rfl⟩
  have hns := numb_small c
  rw [hnn] at HNu hns
  have HP1 := hidK (rput_any (m + 1) (by omega) (by omega))
  have HP2 := hidK (rput_any nn hns.1 hns.2)
  obtain ⟨L, hL⟩ : ∃ L, str (lettF c) = L := ⟨_, rfl⟩
  obtain ⟨M, hM⟩ : ∃ M, str (digF (m + 1)) = M := ⟨_, rfl⟩
  obtain ⟨N, hN⟩ : ∃ N, str (digF nn) = N := ⟨_, rfl⟩
  have zL : L.size ≤ 2 := by rw [← hL, str_size]; have := lett_small c; omega
  have zM : M.size ≤ 2 := by rw [← hM, str_size]; exact dig_small _
  have zN : N.size ≤ 2 := by rw [← hN, str_size]; exact dig_small _
  have tL : L.toList = lettF c := by rw [← hL, str_toList]
  rw [hL] at HLe
  rw [hM] at HP1
  rw [hN] at HP2
  obtain ⟨R, hR⟩ : ∃ R, str (rseqF c m app) = R := ⟨_, rfl⟩
  rw [hR]
  unfold rseqF at hR
  rw [hnn] at hR
  have hm1 : IntKind.i64.wrap (m + 1) = m + 1 := by
    have := IntKind.wrap_i64 (m + 1)
    omega
  have HCat : Hid (∀ a b : List UInt8, str (a ++ b) = str a ++ str b) := fun a b => (str_catK a b).symm
  by_cases hl : lettF c = []
  · have e1 : L = ⟨#[]⟩ := by rw [← hL, hl]; rfl
    subst e1
    rw [if_neg (by simp [hl]), if_neg (by simp [hl]), if_neg (by simp [hl])] at hR
    by_cases hm : 0 < m
    · rw [if_pos hm] at hR
      have HR : Hid ((⟨#[27, 91]⟩ : ByteArray) ++ N ++ ⟨#[59]⟩ ++ M ++ ⟨#[126]⟩ = R) := by
        show _ = _
        rw [← hR, HCat.out, HCat.out, HCat.out, HCat.out, hN, hM]
        rfl
      clear hR hL hM hN tL hl hnn hns HCat
      go_enter Tryd.func56, Tryd.ntmps56
      go_wp2_with fail
      refine (HLe.out _).mono ?_
      rintro e w1 ⟨rfl, hb1⟩
      have H1 := hidK (H.out.more hb1)
      have a0 := H1.out.c0
      have a1 := H1.out.c1
      clear hb1 k0 k1
      go_wp2_with fail
      refine (HP1.out _).mono ?_
      rintro e w2 ⟨rfl, hb2⟩
      have H2 := hidK (H1.out.more hb2)
      have b0 := H2.out.c0
      have b1 := H2.out.c1
      clear hb2 a0 a1
      go_wp2_with fail
      refine (HNu.out _).mono ?_
      rintro e w3 ⟨rfl, hb3⟩
      have H3 := hidK (H2.out.more hb3)
      clear hb3 b0 b1
      go_wp2_with fail
      refine (HP2.out _).mono ?_
      rintro e w4 ⟨rfl, hb4⟩
      have H4 := hidK (H3.out.more hb4)
      have d0 := H4.out.c0
      have d1 := H4.out.c1
      clear hb4
      go_wp2_with fail
      go_ret
      exact ⟨by rw [← HR.out]; first | rfl | simp, by first | exact H4.out.below | (rw [← HK.out]; exact H4.out.below)⟩

    · have hm0 : m = 0 := by omega
      subst hm0
      rw [if_neg (by decide)] at hR
      have HR : Hid ((⟨#[27, 91]⟩ : ByteArray) ++ N ++ ⟨#[126]⟩ = R) := by
        show _ = _
        rw [← hR, HCat.out, HCat.out, hN]
        rfl
      clear hR hL hM hN tL hl hnn hns HCat
      go_enter Tryd.func56, Tryd.ntmps56
      go_wp2_with fail
      refine (HLe.out _).mono ?_
      rintro e w1 ⟨rfl, hb1⟩
      have H1 := hidK (H.out.more hb1)
      have a0 := H1.out.c0
      have a1 := H1.out.c1
      clear hb1 k0 k1
      go_wp2_with fail
      refine (HP1.out _).mono ?_
      rintro e w2 ⟨rfl, hb2⟩
      have H2 := hidK (H1.out.more hb2)
      have b0 := H2.out.c0
      have b1 := H2.out.c1
      clear hb2 a0 a1
      go_wp2_with fail
      refine (HNu.out _).mono ?_
      rintro e w3 ⟨rfl, hb3⟩
      have H3 := hidK (H2.out.more hb3)
      clear hb3 b0 b1
      go_wp2_with fail
      refine (HP2.out _).mono ?_
      rintro e w4 ⟨rfl, hb4⟩
      have H4 := hidK (H3.out.more hb4)
      have d0 := H4.out.c0
      have d1 := H4.out.c1
      clear hb4
      go_wp2_with fail
      go_ret
      exact ⟨by rw [← HR.out]; first | rfl | simp, by first | exact H4.out.below | (rw [← HK.out]; exact H4.out.below)⟩

  · have e1 : ¬ L.toList = [] := by rw [tL]; exact hl
    have e2 : L.toList.isEmpty = false := by rw [tL]; simpa using hl
    by_cases hm : 0 < m
    · rw [if_pos ⟨hl, hm⟩] at hR
      have HR : Hid ((⟨#[27, 91, 49, 59]⟩ : ByteArray) ++ M ++ L = R) := by
        show _ = _
        rw [← hR, HCat.out, HCat.out, hM, hL]
        rfl
      clear hR hL hM hN tL hl hnn hns HCat
      go_enter Tryd.func56, Tryd.ntmps56
      go_wp2_with fail
      refine (HLe.out _).mono ?_
      rintro e w1 ⟨rfl, hb1⟩
      have H1 := hidK (H.out.more hb1)
      have a0 := H1.out.c0
      have a1 := H1.out.c1
      clear hb1 k0 k1
      go_wp2_with fail
      refine (HP1.out _).mono ?_
      rintro e w2 ⟨rfl, hb2⟩
      have H2 := hidK (H1.out.more hb2)
      have b0 := H2.out.c0
      have b1 := H2.out.c1
      clear hb2 a0 a1
      go_wp2_with fail
      refine (HNu.out _).mono ?_
      rintro e w3 ⟨rfl, hb3⟩
      have H3 := hidK (H2.out.more hb3)
      clear hb3 b0 b1
      go_wp2_with fail
      refine (HP2.out _).mono ?_
      rintro e w4 ⟨rfl, hb4⟩
      have H4 := hidK (H3.out.more hb4)
      have d0 := H4.out.c0
      have d1 := H4.out.c1
      clear hb4
      go_wp2_with fail
      go_ret
      exact ⟨by rw [← HR.out]; first | rfl | simp, by first | exact H4.out.below | (rw [← HK.out]; exact H4.out.below)⟩

    · have hm0 : m = 0 := by omega
      subst hm0
      rw [if_neg (by simp)] at hR
      cases app with
      | true =>
        rw [if_pos ⟨hl, .inl rfl⟩] at hR
        have HR : Hid ((⟨#[27, 79]⟩ : ByteArray) ++ L = R) := by
          show _ = _
          rw [← hR, HCat.out, hL]
          rfl
        clear hR hL hM hN tL hl hnn hns HCat
        go_enter Tryd.func56, Tryd.ntmps56
        go_wp2_with fail
        refine (HLe.out _).mono ?_
        rintro e w1 ⟨rfl, hb1⟩
        have H1 := hidK (H.out.more hb1)
        have a0 := H1.out.c0
        have a1 := H1.out.c1
        clear hb1 k0 k1
        go_wp2_with fail
        refine (HP1.out _).mono ?_
        rintro e w2 ⟨rfl, hb2⟩
        have H2 := hidK (H1.out.more hb2)
        have b0 := H2.out.c0
        have b1 := H2.out.c1
        clear hb2 a0 a1
        go_wp2_with fail
        refine (HNu.out _).mono ?_
        rintro e w3 ⟨rfl, hb3⟩
        have H3 := hidK (H2.out.more hb3)
        clear hb3 b0 b1
        go_wp2_with fail
        refine (HP2.out _).mono ?_
        rintro e w4 ⟨rfl, hb4⟩
        have H4 := hidK (H3.out.more hb4)
        have d0 := H4.out.c0
        have d1 := H4.out.c1
        clear hb4
        go_wp2_with fail
        go_ret
        exact ⟨by rw [← HR.out]; first | rfl | simp, by first | exact H4.out.below | (rw [← HK.out]; exact H4.out.below)⟩

      | false =>
        by_cases hc : 16777227 ≤ c
        · rw [if_pos ⟨hl, .inr hc⟩] at hR
          have HR : Hid ((⟨#[27, 79]⟩ : ByteArray) ++ L = R) := by
            show _ = _
            rw [← hR, HCat.out, hL]
            rfl
          clear hR hL hM hN tL hl hnn hns HCat
          go_enter Tryd.func56, Tryd.ntmps56
          go_wp2_with fail
          refine (HLe.out _).mono ?_
          rintro e w1 ⟨rfl, hb1⟩
          have H1 := hidK (H.out.more hb1)
          have a0 := H1.out.c0
          have a1 := H1.out.c1
          clear hb1 k0 k1
          go_wp2_with fail
          refine (HP1.out _).mono ?_
          rintro e w2 ⟨rfl, hb2⟩
          have H2 := hidK (H1.out.more hb2)
          have b0 := H2.out.c0
          have b1 := H2.out.c1
          clear hb2 a0 a1
          go_wp2_with fail
          refine (HNu.out _).mono ?_
          rintro e w3 ⟨rfl, hb3⟩
          have H3 := hidK (H2.out.more hb3)
          clear hb3 b0 b1
          go_wp2_with fail
          refine (HP2.out _).mono ?_
          rintro e w4 ⟨rfl, hb4⟩
          have H4 := hidK (H3.out.more hb4)
          have d0 := H4.out.c0
          have d1 := H4.out.c1
          clear hb4
          go_wp2_with fail
          go_ret
          exact ⟨by rw [← HR.out]; first | rfl | simp, by first | exact H4.out.below | (rw [← HK.out]; exact H4.out.below)⟩

        · rw [if_neg (by simp [hc]), if_pos hl] at hR
          have HR : Hid ((⟨#[27, 91]⟩ : ByteArray) ++ L = R) := by
            show _ = _
            rw [← hR, HCat.out, hL]
            rfl
          clear hR hL hM hN tL hl hnn hns HCat
          go_enter Tryd.func56, Tryd.ntmps56
          go_wp2_with fail
          refine (HLe.out _).mono ?_
          rintro e w1 ⟨rfl, hb1⟩
          have H1 := hidK (H.out.more hb1)
          have a0 := H1.out.c0
          have a1 := H1.out.c1
          clear hb1 k0 k1
          go_wp2_with fail
          refine (HP1.out _).mono ?_
          rintro e w2 ⟨rfl, hb2⟩
          have H2 := hidK (H1.out.more hb2)
          have b0 := H2.out.c0
          have b1 := H2.out.c1
          clear hb2 a0 a1
          go_wp2_with fail
          refine (HNu.out _).mono ?_
          rintro e w3 ⟨rfl, hb3⟩
          have H3 := hidK (H2.out.more hb3)
          clear hb3 b0 b1
          go_wp2_with fail
          refine (HP2.out _).mono ?_
          rintro e w4 ⟨rfl, hb4⟩
          have H4 := hidK (H3.out.more hb4)
          have d0 := H4.out.c0
          have d1 := H4.out.c1
          clear hb4
          go_wp2_with fail
          go_ret
          exact ⟨by rw [← HR.out]; first | rfl | simp, by first | exact H4.out.below | (rw [← HK.out]; exact H4.out.below)⟩

end Go.Proofs.YtnehkokppobncaaDoor

namespace Go.Proofs.YtnehkokppobncaaDoor
open Go.RowKit
set_option linter.unusedVariables false
set_option maxRecDepth 100000

set_option maxHeartbeats 1000000 in
theorem rbytes_no (c m : Int) (app : Bool) (hv : validB c m = false) (w : World) : Calls Tryd.prog 44 #[.agg #[.int .i64 c, .int .i64 m], .bool app] w fun r w' => r = .returned (.string (str [])) ∧ Below w.heap.size w w' := by
  have HV : Hid (∀ W, Calls Tryd.prog 43 #[.agg #[.int .i64 c, .int .i64 m]] W fun r w' => r = .returned (.bool false) ∧ Below W.heap.size W w') := fun W => by rw [← hv]; exact rvalid_any c m W
  have HFin : Hid (∀ W, Below (w.alloc (.cells #[.int .i64 c, .int .i64 m] 36)).heap.size (w.alloc (.cells #[.int .i64 c, .int .i64 m] 36)) W → Below w.heap.size w W) := fun W h => below_step ((Below.refl _ _).alloc (Nat.le_refl _) _) h
  clear hv
  go_enter Tryd.func44, Tryd.ntmps44
  go_wp2_with fail
  refine (HV.out _).mono ?_
  rintro e w1 ⟨rfl, hb1⟩
  have HB1 := hidK (HFin.out _ hb1)
  clear hb1
  go_wp2_with fail
  go_ret
  exact ⟨rfl, HB1.out⟩
set_option maxHeartbeats 2000000 in
theorem rbytes_btab (c m : Int) (app : Bool) (hv : validB c m = true) (hc : c = 16777239) (R : ByteArray) (hR : (⟨#[27, 91, 90]⟩ : ByteArray) = R) (w : World) : Calls Tryd.prog 44 #[.agg #[.int .i64 c, .int .i64 m], .bool app] w fun r w' => r = .returned (.string R) ∧ Below w.heap.size w w' := by
  obtain ⟨W, hW⟩ : ∃ W, w.alloc (.cells #[.int .i64 c, .int .i64 m] 36) = W := ⟨_, rfl⟩
  obtain ⟨K, hK⟩ : ∃ K, w.heap.size = K := ⟨_, rfl⟩
  have hk : Kb w W K c m := by rw [← hW, ← hK]; exact Kb.new w _ _
  have H := hidK hk
  have HK := hidK hK
  have k0 := hk.c0
  have k1 := hk.c1
  have HV : Hid (∀ X, Calls Tryd.prog 43 #[.agg #[.int .i64 c, .int .i64 m]] X fun r w' => r = .returned (.bool true) ∧ Below X.heap.size X w') := fun X => by rw [← hv]; exact rvalid_any c m X
  clear hk
  have HR := hidK hR
  have e1 : (c == 16777239) = true := by simpa using hc
  subst hc
  clear hv hR
  go_enter Tryd.func44, Tryd.ntmps44
  go_wp2_with fail
  refine (HV.out _).mono ?_
  rintro e w1 ⟨rfl, hb1⟩
  have H1 := hidK (H.out.more hb1)
  have a0 := H1.out.c0
  have a1 := H1.out.c1
  clear hb1 k0 k1
  go_wp2_with fail
  go_ret
  exact ⟨by rw [← HR.out]; rfl, by first | exact H1.out.below | (rw [← HK.out]; exact H1.out.below)⟩
set_option maxHeartbeats 2000000 in
theorem rbytes_special (c m : Int) (app : Bool) (hv : validB c m = true) (hc : spcB c = true) (R : ByteArray) (hR : str (rseqF c m app) = R) (w : World) : Calls Tryd.prog 44 #[.agg #[.int .i64 c, .int .i64 m], .bool app] w fun r w' => r = .returned (.string R) ∧ Below w.heap.size w w' := by
  obtain ⟨W, hW⟩ : ∃ W, w.alloc (.cells #[.int .i64 c, .int .i64 m] 36) = W := ⟨_, rfl⟩
  obtain ⟨K, hK⟩ : ∃ K, w.heap.size = K := ⟨_, rfl⟩
  have hk : Kb w W K c m := by rw [← hW, ← hK]; exact Kb.new w _ _
  have H := hidK hk
  have HK := hidK hK
  have k0 := hk.c0
  have k1 := hk.c1
  have HV : Hid (∀ X, Calls Tryd.prog 43 #[.agg #[.int .i64 c, .int .i64 m]] X fun r w' => r = .returned (.bool true) ∧ Below X.heap.size X w') := fun X => by rw [← hv]; exact rvalid_any c m X
  clear hk
  have HS : Hid (∀ W, Calls Tryd.prog 53 #[.int .i64 c] W fun r w' => r = .returned (.bool true) ∧ W = w') := fun W => by rw [← hc]; exact rspecial_any c W
  obtain ⟨_, _, h0, h7⟩ := valid_code hv
  have HQ := hidK (rseq_any c m app h0 h7)
  rw [hR] at HQ
  have hb : 16777217 ≤ c ∧ c ≤ 16777238 := by simpa [spcB] using hc
  have e1 : (c == 16777239) = false := by simp; omega
  clear hv hR hc hb h0 h7
  go_enter Tryd.func44, Tryd.ntmps44
  go_wp2_with fail
  refine (HV.out _).mono ?_
  rintro e w1 ⟨rfl, hb1⟩
  have H1 := hidK (H.out.more hb1)
  have a0 := H1.out.c0
  have a1 := H1.out.c1
  clear hb1 k0 k1
  go_wp2_with (go_at_call 53; refine (HS.out _).mono ?_; rintro e w2 ⟨rfl, rfl⟩)
  refine (HQ.out _).mono ?_
  rintro e w3 ⟨rfl, hb3⟩
  have HB3 := hidK (below_step H1.out.below hb3)
  clear hb3
  go_wp2_with fail
  go_ret
  exact ⟨rfl, by first | exact HB3.out | (rw [← HK.out]; exact HB3.out)⟩
set_option maxHeartbeats 4000000 in
theorem rbytes_low (c m : Int) (app : Bool) (hv : validB c m = true) (hc : spcB c = false) (hc2 : c ≠ 16777239) (hm : m = 0 ∨ m = 2) (h0 : 0 ≤ c) (h1 : c ≤ 1114111) (h2 : c < 55296 ∨ 57343 < c) (R : ByteArray) (hR : str ((if m = 2 then [27] else []) ++ Lib.encodeRune c) = R) (w : World) : Calls Tryd.prog 44 #[.agg #[.int .i64 c, .int .i64 m], .bool app] w fun r w' => r = .returned (.string R) ∧ Below w.heap.size w w' := by
  obtain ⟨W, hW⟩ : ∃ W, w.alloc (.cells #[.int .i64 c, .int .i64 m] 36) = W := ⟨_, rfl⟩
  obtain ⟨K, hK⟩ : ∃ K, w.heap.size = K := ⟨_, rfl⟩
  have hk : Kb w W K c m := by rw [← hW, ← hK]; exact Kb.new w _ _
  have H := hidK hk
  have HK := hidK hK
  have k0 := hk.c0
  have k1 := hk.c1
  have HV : Hid (∀ X, Calls Tryd.prog 43 #[.agg #[.int .i64 c, .int .i64 m]] X fun r w' => r = .returned (.bool true) ∧ Below X.heap.size X w') := fun X => by rw [← hv]; exact rvalid_any c m X
  clear hk
  have HS : Hid (∀ W, Calls Tryd.prog 53 #[.int .i64 c] W fun r w' => r = .returned (.bool false) ∧ W = w') := fun W => by rw [← hc]; exact rspecial_any c W
  have HU := hidK (rutf8_any c h0 (by omega))
  rw [r8_enc h0 h1 h2] at HU
  obtain ⟨U, hU⟩ : ∃ U, str (Lib.encodeRune c) = U := ⟨_, rfl⟩
  rw [hU] at HU
  have hUz : U.size ≤ 4 := by
    rw [← hU, ← r8_enc h0 h1 h2, str_size]
    unfold r8F
    split
    · simp
    · split
      · simp
      · split <;> simp
  have e1 : (c == 16777239) = false := by simpa using hc2
  rcases hm with h | h
  · subst h
    have HR : Hid ((⟨#[]⟩ : ByteArray) ++ U = R) := by
      show _ = _
      rw [← hR, ← hU]
      exact str_catK [] _
    clear hv hR hc hc2 h0 h1 h2 hU
    go_enter Tryd.func44, Tryd.ntmps44
    go_wp2_with fail
    refine (HV.out _).mono ?_
    rintro e w1 ⟨rfl, hb1⟩
    have H1 := hidK (H.out.more hb1)
    have a0 := H1.out.c0
    have a1 := H1.out.c1
    clear hb1 k0 k1
    go_wp2_with first | (go_at_call 53; refine (HS.out _).mono ?_; rintro e w2 ⟨rfl, rfl⟩) | (go_at_call 36; refine (HU.out _).mono ?_; rintro e w3 ⟨rfl, hb3⟩)
    go_ret
    exact ⟨by rw [← HR.out]; first | rfl | simp, by first | exact below_step H1.out.below hb3 | (rw [← HK.out]; exact below_step H1.out.below hb3)⟩
  · subst h
    have HR : Hid ((⟨#[27]⟩ : ByteArray) ++ U = R) := by
      show _ = _
      rw [← hR, ← hU]
      exact str_catK [27] _
    clear hv hR hc hc2 h0 h1 h2 hU
    go_enter Tryd.func44, Tryd.ntmps44
    go_wp2_with fail
    refine (HV.out _).mono ?_
    rintro e w1 ⟨rfl, hb1⟩
    have H1 := hidK (H.out.more hb1)
    have a0 := H1.out.c0
    have a1 := H1.out.c1
    clear hb1 k0 k1
    go_wp2_with first | (go_at_call 53; refine (HS.out _).mono ?_; rintro e w2 ⟨rfl, rfl⟩) | (go_at_call 36; refine (HU.out _).mono ?_; rintro e w3 ⟨rfl, hb3⟩)
    go_ret
    exact ⟨by rw [← HR.out]; first | rfl | simp, by first | exact below_step H1.out.below hb3 | (rw [← HK.out]; exact below_step H1.out.below hb3)⟩
set_option maxHeartbeats 4000000 in
theorem rbytes_ctl (c m : Int) (app : Bool) (hv : validB c m = true) (hc : spcB c = false) (hc2 : c ≠ 16777239) (hm : m = 4 ∨ m = 6) (h0 : 32 ≤ c) (h1 : c < 128) (R : ByteArray) (hR : str ((if m = 6 then [27] else []) ++ [(c % 32).toNat.toUInt8]) = R) (w : World) : Calls Tryd.prog 44 #[.agg #[.int .i64 c, .int .i64 m], .bool app] w fun r w' => r = .returned (.string R) ∧ Below w.heap.size w w' := by
  obtain ⟨W, hW⟩ : ∃ W, w.alloc (.cells #[.int .i64 c, .int .i64 m] 36) = W := ⟨_, rfl⟩
  obtain ⟨K, hK⟩ : ∃ K, w.heap.size = K := ⟨_, rfl⟩
  have hk : Kb w W K c m := by rw [← hW, ← hK]; exact Kb.new w _ _
  have H := hidK hk
  have HK := hidK hK
  have k0 := hk.c0
  have k1 := hk.c1
  have HV : Hid (∀ X, Calls Tryd.prog 43 #[.agg #[.int .i64 c, .int .i64 m]] X fun r w' => r = .returned (.bool true) ∧ Below X.heap.size X w') := fun X => by rw [← hv]; exact rvalid_any c m X
  clear hk
  have HS : Hid (∀ W, Calls Tryd.prog 53 #[.int .i64 c] W fun r w' => r = .returned (.bool false) ∧ W = w') := fun W => by rw [← hc]; exact rspecial_any c W
  have e1 : (c == 16777239) = false := by simpa using hc2
  by_cases h32 : c = 32
  · subst h32
    rcases hm with h | h
    · subst h
      have HR : Hid ((⟨#[0]⟩ : ByteArray) = R) := hR
      clear hv hR hc hc2 h0 h1
      go_enter Tryd.func44, Tryd.ntmps44
      go_wp2_with fail
      refine (HV.out _).mono ?_
      rintro e w1 ⟨rfl, hb1⟩
      have H1 := hidK (H.out.more hb1)
      have a0 := H1.out.c0
      have a1 := H1.out.c1
      clear hb1 k0 k1
      go_wp2_with (go_at_call 53; refine (HS.out _).mono ?_; rintro e w2 ⟨rfl, rfl⟩)
      go_ret
      exact ⟨by rw [← HR.out]; rfl, by first | exact H1.out.below | (rw [← HK.out]; exact H1.out.below)⟩
    · subst h
      have HR : Hid ((⟨#[27, 0]⟩ : ByteArray) = R) := hR
      clear hv hR hc hc2 h0 h1
      go_enter Tryd.func44, Tryd.ntmps44
      go_wp2_with fail
      refine (HV.out _).mono ?_
      rintro e w1 ⟨rfl, hb1⟩
      have H1 := hidK (H.out.more hb1)
      have a0 := H1.out.c0
      have a1 := H1.out.c1
      clear hb1 k0 k1
      go_wp2_with (go_at_call 53; refine (HS.out _).mono ?_; rintro e w2 ⟨rfl, rfl⟩)
      go_ret
      exact ⟨by rw [← HR.out]; rfl, by first | exact H1.out.below | (rw [← HK.out]; exact H1.out.below)⟩
  · have e2 : (c == 32) = false := by simpa using h32
    obtain ⟨y, hy⟩ : ∃ y, c % 32 = y := ⟨_, rfl⟩
    have r0 : 0 ≤ y ∧ y < 256 := by omega
    obtain ⟨b0, q0, f0⟩ := byte_ex y r0.1 r0.2
    have hw0 := u8_in y r0
    rw [hy, ← f0] at hR
    have hcv : ∀ X : World, (convert 39 9 (.slice (some ⟨X.heap.size, 0, none⟩) 1 1)).run Tryd.prog (X.alloc (.cells #[.int .u8 y] 5)) = .ok (.string (str [b0])) (X.alloc (.cells #[.int .u8 y] 5)) := fun X => by
      rw [q0]
      exact conv_made [b0] (by simp) X
    obtain ⟨D, hD⟩ : ∃ D, str [b0] = D := ⟨_, rfl⟩
    have zD : D.size = 1 := by rw [← hD]; rfl
    rw [hD] at hcv
    rcases hm with h | h
    · subst h
      have HR : Hid ((⟨#[]⟩ : ByteArray) ++ D = R) := by
        show _ = _
        rw [← hR, ← hD]
        exact str_catK [] _
      clear hv hR hc hc2 h32 f0 q0 hD r0
      go_enter Tryd.func44, Tryd.ntmps44
      go_wp2_with fail
      refine (HV.out _).mono ?_
      rintro e w1 ⟨rfl, hb1⟩
      have H1 := hidK (H.out.more hb1)
      have a0 := H1.out.c0
      have a1 := H1.out.c1
      clear hb1 k0 k1
      have hcv1 := hcv w1
      clear hcv
      go_wp2_with (go_at_call 53; refine (HS.out _).mono ?_; rintro e w2 ⟨rfl, rfl⟩)
      go_ret
      exact ⟨by rw [← HR.out]; first | rfl | simp, by first | exact below_step H1.out.below ((Below.refl _ _).alloc (Nat.le_refl _) _) | (rw [← HK.out]; exact below_step H1.out.below ((Below.refl _ _).alloc (Nat.le_refl _) _))⟩
    · subst h
      have HR : Hid ((⟨#[27]⟩ : ByteArray) ++ D = R) := by
        show _ = _
        rw [← hR, ← hD]
        exact str_catK [27] _
      clear hv hR hc hc2 h32 f0 q0 hD r0
      go_enter Tryd.func44, Tryd.ntmps44
      go_wp2_with fail
      refine (HV.out _).mono ?_
      rintro e w1 ⟨rfl, hb1⟩
      have H1 := hidK (H.out.more hb1)
      have a0 := H1.out.c0
      have a1 := H1.out.c1
      clear hb1 k0 k1
      have hcv1 := hcv w1
      clear hcv
      go_wp2_with (go_at_call 53; refine (HS.out _).mono ?_; rintro e w2 ⟨rfl, rfl⟩)
      go_ret
      exact ⟨by rw [← HR.out]; first | rfl | simp, by first | exact below_step H1.out.below ((Below.refl _ _).alloc (Nat.le_refl _) _) | (rw [← HK.out]; exact below_step H1.out.below ((Below.refl _ _).alloc (Nat.le_refl _) _))⟩
theorem rbytes_any (c m : Int) (app : Bool) (w : World) : Calls Tryd.prog 44 #[.agg #[.int .i64 c, .int .i64 m], .bool app] w fun r w' => r = .returned (.string (str (bytesF c m app))) ∧ Below w.heap.size w w' := by
  unfold bytesF
  cases hv : validB c m with
  | false => rw [if_neg (by decide)]; exact rbytes_no c m app hv w
  | true =>
    rw [if_pos rfl]
    by_cases h1 : c = 16777239
    · rw [if_pos h1]
      exact rbytes_btab c m app hv h1 _ rfl w
    · rw [if_neg h1]
      cases h2 : spcB c with
      | true =>
        rw [if_pos rfl]
        obtain ⟨_, _, h0, h7⟩ := valid_code hv
        obtain ⟨k, s, e, hk, _, _⟩ := spc_at h2
        have hq := rseq_eq ⟨k, hk⟩ ⟨m.toNat, by omega⟩ app
        simp only at hq
        rw [show ((m.toNat : Nat) : Int) = m by omega, ← e] at hq
        rw [show (c - 16777217).toNat = k by omega, ← hq]
        exact rbytes_special c m app hv h2 _ rfl w
      | false =>
        rw [if_neg (by decide)]
        have hcl : ((m = 0 ∨ m = 2) ∧ 0 ≤ c ∧ c ≤ 1114111 ∧ (c < 55296 ∨ 57343 < c)) ∨ ((m = 4 ∨ m = 6) ∧ 32 ≤ c ∧ c < 128) := by
          unfold validB at hv
          by_cases q1 : c = 32
          · rw [if_pos q1] at hv
            simp [plainM, ctrlM] at hv
            omega
          · rw [if_neg q1] at hv
            by_cases q2 : oneB c = true
            · rw [if_pos q2] at hv
              simp [plainM, oneB] at hv q2
              omega
            · rw [if_neg q2, if_neg h1, if_neg (by simp [h2])] at hv
              simp [plainM, ctrlM, chrB, ctlB] at hv
              omega
        rcases hcl with ⟨hm, a1, a2, a3⟩ | ⟨hm, a1, a2⟩
        · refine rbytes_low c m app hv h2 h1 hm a1 a2 a3 _ ?_ w
          rcases hm with e | e <;> subst e <;> rfl
        · refine rbytes_ctl c m app hv h2 h1 hm a1 a2 _ ?_ w
          have he : Lib.encodeRune (c % 32) = [(c % 32).toNat.toUInt8] := by
            unfold Lib.encodeRune
            rw [Lib.encodeRuneZ_one (by omega) (by omega)]
            rfl
          rcases hm with e | e <;> subst e <;> simp [hasM, he]
end Go.Proofs.YtnehkokppobncaaDoor
