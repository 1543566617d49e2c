/-
  Keys: a special key's name, by the document.
-/
import Derived.Test.YtghepjjfdaecgaaDoorKRefN
namespace Go.Proofs.YtghepjjfdaecgaaDoor
open Go.RowKit
set_option linter.unusedVariables false
set_option maxRecDepth 100000

set_option maxHeartbeats 8000000 in
theorem rname_special (c m : Int) (hv : validB c m = true) (k : Nat) (hk : k < 23) (hc : c = 16777217 + (k : Int)) (R : ByteArray) (hR : str (modF m ++ bareF c) = R) (w : World) : Calls Tryd.prog 20 #[.agg #[.int .i64 c, .int .i64 m]] w fun r w' => r = .returned (.string R) ∧ Below w.heap.size w w' := by
  obtain ⟨W, hW⟩ : ∃ W, w.alloc (.cells #[.int .i64 c, .int .i64 m] 30) = W := ⟨_, rfl⟩
  obtain ⟨K, hK⟩ : ∃ K, w.heap.size = K := ⟨_, rfl⟩
  have hkb : Kb w W K c m := by rw [← hW, ← hK]; exact Kb.new w _ _
  have H := hidK hkb
  have HK := hidK hK
  have k0 := hkb.c0
  have k1 := hkb.c1
  have HV : Hid (∀ X, Calls Tryd.prog 19 #[.agg #[.int .i64 c, .int .i64 m]] X fun r w' => r = .returned (.bool true) ∧ Below X.heap.size X w') := fun X => by rw [← hv]; exact rvalid_any c m X
  clear hkb
  obtain ⟨x, hx, hx9, _⟩ := words_at ⟨k, hk⟩
  have hb : bareF c = x := words_bare hc hx
  have HWo := hidK (rwords_at k hk x hx)
  obtain ⟨U, hU⟩ : ∃ U, str x = U := ⟨_, rfl⟩
  rw [hU] at HWo
  have hUz : U.size ≤ 9 := by rw [← hU]; exact hx9
  have e1 : (c == 32) = false := by simp; omega
  have e2 : (c == 13) = false := by simp; omega
  have e3 : (c == 9) = false := by simp; omega
  have e4 : (c == 27) = false := by simp; omega
  have e5 : (c == 127) = false := by simp; omega
  have e6 : (16777217 : Int) ≤ c := by omega
  have hi : c - 16777217 = (k : Int) := by omega
  have hk2 : (k : Int) < 23 := by omega
  have hwr : IntKind.i64.wrap (k : Int) = (k : Int) := by
    have := IntKind.wrap_i64 (k : Int)
    omega
  have HRR : Hid (∀ l, modF m = l → str l ++ U = R) := fun l hl => by rw [← hR, hb, ← hU, hl, str_catK]
  obtain ⟨_, _, hm0, hm7⟩ := valid_code hv
  have hm : m = 0 ∨ m = 1 ∨ m = 2 ∨ m = 3 ∨ m = 4 ∨ m = 5 ∨ m = 6 ∨ m = 7 := by omega
  clear hv hR hb hU hx hx9 hm0 hm7 hc
  rcases hm with h | h | h | h | h | h | h | h
  · subst h
    have HR : Hid ((⟨#[]⟩ : ByteArray) ++ U = R) := HRR.out [] rfl
    clear HRR
    go_enter Tryd.func20, Tryd.ntmps20
    go_wp2_with fail
    refine (HV.out _).mono ?_
    rintro e w1 ⟨rfl, hb1⟩
    have H1 := hidK (H.out.more hb1)
    have a0 := H1.out.c0
    have a1 := H1.out.c1
    clear hb1 k0 k1
    go_wp2_with fail
    go_region_with (go_at_call 43; refine (HWo.out _).mono ?_; rintro e w2 ⟨g, rfl, hb2, hcell⟩; have a02 : w2.cell? ⟨K, 0, none⟩ = some (.int .i64 c) := (H1.out.more (below_step (by repeat (first | exact Below.refl _ _ | apply Below.drew)) hb2)).c0; have HB2 := hidK hb2; clear hb2)
    all_goals go_wp2_with fail
    all_goals go_ret
    all_goals refine ⟨by rw [← HR.out]; first | rfl | simp, ?_⟩
    all_goals first | rw [← HK.out] | skip
    all_goals exact below_step H1.out.below (below_step (by repeat (first | exact Below.refl _ _ | apply Below.drew)) HB2.out)
  · subst h
    have HR : Hid ((⟨#[83, 45]⟩ : ByteArray) ++ U = R) := HRR.out [83, 45] rfl
    clear HRR
    go_enter Tryd.func20, Tryd.ntmps20
    go_wp2_with fail
    refine (HV.out _).mono ?_
    rintro e w1 ⟨rfl, hb1⟩
    have H1 := hidK (H.out.more hb1)
    have a0 := H1.out.c0
    have a1 := H1.out.c1
    clear hb1 k0 k1
    go_wp2_with fail
    go_region_with (go_at_call 43; refine (HWo.out _).mono ?_; rintro e w2 ⟨g, rfl, hb2, hcell⟩; have a02 : w2.cell? ⟨K, 0, none⟩ = some (.int .i64 c) := (H1.out.more (below_step (by repeat (first | exact Below.refl _ _ | apply Below.drew)) hb2)).c0; have HB2 := hidK hb2; clear hb2)
    all_goals go_wp2_with fail
    all_goals go_ret
    all_goals refine ⟨by rw [← HR.out]; first | rfl | simp, ?_⟩
    all_goals first | rw [← HK.out] | skip
    all_goals exact below_step H1.out.below (below_step (by repeat (first | exact Below.refl _ _ | apply Below.drew)) HB2.out)
  · subst h
    have HR : Hid ((⟨#[77, 45]⟩ : ByteArray) ++ U = R) := HRR.out [77, 45] rfl
    clear HRR
    go_enter Tryd.func20, Tryd.ntmps20
    go_wp2_with fail
    refine (HV.out _).mono ?_
    rintro e w1 ⟨rfl, hb1⟩
    have H1 := hidK (H.out.more hb1)
    have a0 := H1.out.c0
    have a1 := H1.out.c1
    clear hb1 k0 k1
    go_wp2_with fail
    go_region_with (go_at_call 43; refine (HWo.out _).mono ?_; rintro e w2 ⟨g, rfl, hb2, hcell⟩; have a02 : w2.cell? ⟨K, 0, none⟩ = some (.int .i64 c) := (H1.out.more (below_step (by repeat (first | exact Below.refl _ _ | apply Below.drew)) hb2)).c0; have HB2 := hidK hb2; clear hb2)
    all_goals go_wp2_with fail
    all_goals go_ret
    all_goals refine ⟨by rw [← HR.out]; first | rfl | simp, ?_⟩
    all_goals first | rw [← HK.out] | skip
    all_goals exact below_step H1.out.below (below_step (by repeat (first | exact Below.refl _ _ | apply Below.drew)) HB2.out)
  · subst h
    have HR : Hid ((⟨#[77, 45, 83, 45]⟩ : ByteArray) ++ U = R) := HRR.out [77, 45, 83, 45] rfl
    clear HRR
    go_enter Tryd.func20, Tryd.ntmps20
    go_wp2_with fail
    refine (HV.out _).mono ?_
    rintro e w1 ⟨rfl, hb1⟩
    have H1 := hidK (H.out.more hb1)
    have a0 := H1.out.c0
    have a1 := H1.out.c1
    clear hb1 k0 k1
    go_wp2_with fail
    go_region_with (go_at_call 43; refine (HWo.out _).mono ?_; rintro e w2 ⟨g, rfl, hb2, hcell⟩; have a02 : w2.cell? ⟨K, 0, none⟩ = some (.int .i64 c) := (H1.out.more (below_step (by repeat (first | exact Below.refl _ _ | apply Below.drew)) hb2)).c0; have HB2 := hidK hb2; clear hb2)
    all_goals go_wp2_with fail
    all_goals go_ret
    all_goals refine ⟨by rw [← HR.out]; first | rfl | simp, ?_⟩
    all_goals first | rw [← HK.out] | skip
    all_goals exact below_step H1.out.below (below_step (by repeat (first | exact Below.refl _ _ | apply Below.drew)) HB2.out)
  · subst h
    have HR : Hid ((⟨#[67, 45]⟩ : ByteArray) ++ U = R) := HRR.out [67, 45] rfl
    clear HRR
    go_enter Tryd.func20, Tryd.ntmps20
    go_wp2_with fail
    refine (HV.out _).mono ?_
    rintro e w1 ⟨rfl, hb1⟩
    have H1 := hidK (H.out.more hb1)
    have a0 := H1.out.c0
    have a1 := H1.out.c1
    clear hb1 k0 k1
    go_wp2_with fail
    go_region_with (go_at_call 43; refine (HWo.out _).mono ?_; rintro e w2 ⟨g, rfl, hb2, hcell⟩; have a02 : w2.cell? ⟨K, 0, none⟩ = some (.int .i64 c) := (H1.out.more (below_step (by repeat (first | exact Below.refl _ _ | apply Below.drew)) hb2)).c0; have HB2 := hidK hb2; clear hb2)
    all_goals go_wp2_with fail
    all_goals go_ret
    all_goals refine ⟨by rw [← HR.out]; first | rfl | simp, ?_⟩
    all_goals first | rw [← HK.out] | skip
    all_goals exact below_step H1.out.below (below_step (by repeat (first | exact Below.refl _ _ | apply Below.drew)) HB2.out)
  · subst h
    have HR : Hid ((⟨#[67, 45, 83, 45]⟩ : ByteArray) ++ U = R) := HRR.out [67, 45, 83, 45] rfl
    clear HRR
    go_enter Tryd.func20, Tryd.ntmps20
    go_wp2_with fail
    refine (HV.out _).mono ?_
    rintro e w1 ⟨rfl, hb1⟩
    have H1 := hidK (H.out.more hb1)
    have a0 := H1.out.c0
    have a1 := H1.out.c1
    clear hb1 k0 k1
    go_wp2_with fail
    go_region_with (go_at_call 43; refine (HWo.out _).mono ?_; rintro e w2 ⟨g, rfl, hb2, hcell⟩; have a02 : w2.cell? ⟨K, 0, none⟩ = some (.int .i64 c) := (H1.out.more (below_step (by repeat (first | exact Below.refl _ _ | apply Below.drew)) hb2)).c0; have HB2 := hidK hb2; clear hb2)
    all_goals go_wp2_with fail
    all_goals go_ret
    all_goals refine ⟨by rw [← HR.out]; first | rfl | simp, ?_⟩
    all_goals first | rw [← HK.out] | skip
    all_goals exact below_step H1.out.below (below_step (by repeat (first | exact Below.refl _ _ | apply Below.drew)) HB2.out)
  · subst h
    have HR : Hid ((⟨#[67, 45, 77, 45]⟩ : ByteArray) ++ U = R) := HRR.out [67, 45, 77, 45] rfl
    clear HRR
    go_enter Tryd.func20, Tryd.ntmps20
    go_wp2_with fail
    refine (HV.out _).mono ?_
    rintro e w1 ⟨rfl, hb1⟩
    have H1 := hidK (H.out.more hb1)
    have a0 := H1.out.c0
    have a1 := H1.out.c1
    clear hb1 k0 k1
    go_wp2_with fail
    go_region_with (go_at_call 43; refine (HWo.out _).mono ?_; rintro e w2 ⟨g, rfl, hb2, hcell⟩; have a02 : w2.cell? ⟨K, 0, none⟩ = some (.int .i64 c) := (H1.out.more (below_step (by repeat (first | exact Below.refl _ _ | apply Below.drew)) hb2)).c0; have HB2 := hidK hb2; clear hb2)
    all_goals go_wp2_with fail
    all_goals go_ret
    all_goals refine ⟨by rw [← HR.out]; first | rfl | simp, ?_⟩
    all_goals first | rw [← HK.out] | skip
    all_goals exact below_step H1.out.below (below_step (by repeat (first | exact Below.refl _ _ | apply Below.drew)) HB2.out)
  · subst h
    have HR : Hid ((⟨#[67, 45, 77, 45, 83, 45]⟩ : ByteArray) ++ U = R) := HRR.out [67, 45, 77, 45, 83, 45] rfl
    clear HRR
    go_enter Tryd.func20, Tryd.ntmps20
    go_wp2_with fail
    refine (HV.out _).mono ?_
    rintro e w1 ⟨rfl, hb1⟩
    have H1 := hidK (H.out.more hb1)
    have a0 := H1.out.c0
    have a1 := H1.out.c1
    clear hb1 k0 k1
    go_wp2_with fail
    go_region_with (go_at_call 43; refine (HWo.out _).mono ?_; rintro e w2 ⟨g, rfl, hb2, hcell⟩; have a02 : w2.cell? ⟨K, 0, none⟩ = some (.int .i64 c) := (H1.out.more (below_step (by repeat (first | exact Below.refl _ _ | apply Below.drew)) hb2)).c0; have HB2 := hidK hb2; clear hb2)
    all_goals go_wp2_with fail
    all_goals go_ret
    all_goals refine ⟨by rw [← HR.out]; first | rfl | simp, ?_⟩
    all_goals first | rw [← HK.out] | skip
    all_goals exact below_step H1.out.below (below_step (by repeat (first | exact Below.refl _ _ | apply Below.drew)) HB2.out)
theorem rname_no (c m : Int) (hv : validB c m = false) (w : World) : Calls Tryd.prog 20 #[.agg #[.int .i64 c, .int .i64 m]] w fun r w' => r = .returned (.string (str [])) ∧ Below w.heap.size w w' := by
  have HV : Hid (∀ W, Calls Tryd.prog 19 #[.agg #[.int .i64 c, .int .i64 m]] W fun r w' => r = .returned (.bool false) ∧ Below W.heap.size W w') := fun W => by rw [← hv]; exact rvalid_any c m W
  have HFin : Hid (∀ W, Below (w.alloc (.cells #[.int .i64 c, .int .i64 m] 30)).heap.size (w.alloc (.cells #[.int .i64 c, .int .i64 m] 30)) W → Below w.heap.size w W) := fun W h => below_step ((Below.refl _ _).alloc (Nat.le_refl _) _) h
  clear hv
  go_enter Tryd.func20, Tryd.ntmps20
  go_wp2_with fail
  refine (HV.out _).mono ?_
  rintro e w1 ⟨rfl, hb1⟩
  have HB1 := hidK (HFin.out _ hb1)
  clear hb1
  go_wp2_with fail
  go_ret
  exact ⟨rfl, HB1.out⟩
theorem rname_any (c m : Int) (w : World) : Calls Tryd.prog 20 #[.agg #[.int .i64 c, .int .i64 m]] w fun r w' => r = .returned (.string (str (nameF c m))) ∧ Below w.heap.size w w' := by
  unfold nameF
  cases hv : validB c m with
  | false => rw [if_neg (by decide)]; exact rname_no c m hv w
  | true =>
    rw [if_pos rfl]
    by_cases h1 : c = 32
    · exact rname_at c m hv (.inl h1) _ rfl w
    · by_cases h2 : oneB c = true
      · exact rname_at c m hv (.inr (by simpa [oneB] using h2)) _ rfl w
      · by_cases h3 : c = 16777239
        · exact rname_special c m hv 22 (by decide) h3 _ rfl w
        · by_cases h4 : spcB c = true
          · obtain ⟨k, s, e, hk, _, _⟩ := spc_at h4
            exact rname_special c m hv k (by omega) e _ rfl w
          · exact rname_chr c m hv h1 (by simpa using h2) h3 (by simpa using h4) _ rfl w
end Go.Proofs.YtghepjjfdaecgaaDoor
